package fold_test

import (
	"strings"
	"testing"

	"inkwell/api"
	"inkwell/fold"
	"inkwell/page"
	"inkwell/sheet"
)

// F1: the elements are those of the page, the rules those of its styles, each where it stands in the page.
func TestRead(t *testing.T) {
	for _, s := range []string{
		"",
		"x",
		"<p>x</p>",
		`<p class="a" style="color:red">x<b>y</b></p>`,
		st(""),
		st(" /* none */ "),
		st("p{color:red}") + "<p>x</p>",
		"<p>x" + st(" p{color:red} b , i{size:1;}\n") + "y</p><b>z" + st("") + "</b>" + st("@media wide { p{a:b} b{} } *{}"),
		"<!-- " + st("p{") + " -->" + st("p{a:b}"),
		"<p>" + st("a>b{edge:1 2}/* </b> */"),
		"<styles>p{</styles>",
	} {
		if l, f := page.Parse(s); f != (api.Fault{}) {
			wantFault(t, s, f.Err, f.At)
		} else {
			wantRules(t, s, l)
		}
	}
}

// wantRules: Read tells these elements, and each rule that Parse tells of a style, at a place that has the same bytes.
func wantRules(t *testing.T, s string, want []api.Node) {
	t.Helper()
	l, rules := read(t, s)
	if len(l)+len(want) > 0 && !same(l, want) {
		t.Errorf("%q has the elements %v, not %v", s, l, want)
	}
	next := 0
	for _, n := range want {
		if n.Name != "style" {
			continue
		}
		inner := s[n.Inner.From:n.Inner.To]
		some, _ := sheet.Parse(inner)
		for _, r := range some {
			if next >= len(rules) {
				t.Fatalf("%q has too few rules: %v", s, rules)
			}
			got := rules[next]
			next++
			if s[got.At.From:got.At.To] != inner[r.At.From:r.At.To] || got.At.From < n.Inner.From || got.At.To > n.Inner.To {
				t.Errorf("in %q a rule stands at %v, not as %q", s, got.At, inner[r.At.From:r.At.To])
			}
			if got.At = r.At; !same(got, r) {
				t.Errorf("in %q a rule is %v, not %v", s, got, r)
			}
		}
	}
	if next != len(rules) {
		t.Errorf("%q has too many rules: %v", s, rules)
	}
}

// F1: places, counted by hand: the same rule twice is one of each place.
func TestPlaces(t *testing.T) {
	_, rules := read(t, "xx"+st(" b{}b{}")+"<p>"+st("@media w{b{}}")+"</p>")
	want := []api.Span{{From: 10, To: 13}, {From: 13, To: 16}, {From: 43, To: 46}}
	if len(rules) != len(want) {
		t.Fatalf("there are the rules %v", rules)
	}
	for i, r := range rules {
		if r.At != want[i] {
			t.Errorf("rule %d stands at %v, not %v", i, r.At, want[i])
		}
	}
	if rules[0].Media != "" || rules[2].Media != "w" {
		t.Errorf("the rules %v have other media", rules)
	}
}

// F1: a page's fault is told ahead of all others, wherever it stands.
func TestPageFault(t *testing.T) {
	bad := st("p{") + st("p{edge:1 2 3 4 5}") + `<p style="a">`
	wantFault(t, bad, api.ErrForm, len(bad))
	wantFault(t, bad+"</p><", api.ErrForm, len(bad)+5)
	wantFault(t, bad+`x</p><p a="" a=""></p>`, api.ErrName, len(bad)+13)
	wantFault(t, "<style>p{", api.ErrForm, 9)
	wantFault(t, "<p"+attrs(9)+"></p>", api.ErrMany, len("<p"+attrs(8))+1)
	wantFault(t, strings.Repeat(" ", api.MaxPage)+"<", api.ErrMuch, 0)
	wantFault(t, strings.Repeat("<p>", api.MaxDeep)+"<p>", api.ErrMuch, 3*api.MaxDeep)
}

// F1: the first style that has a fault tells it, at its place in the page.
func TestStyleFault(t *testing.T) {
	ahead := "<p>x" + st("p{}") + "y</p>"
	at := len(ahead + "<style>")
	wantFault(t, ahead+st("p"), api.ErrForm, at+1)
	wantFault(t, ahead+st("p{")+st("}"), api.ErrForm, at+2)
	wantFault(t, ahead+st("p{}")+st("}"), api.ErrForm, at+3+15)
	wantFault(t, ahead+st(" /* "), api.ErrForm, at+1)
	wantFault(t, ahead+st("p[style]{}"), api.ErrKind, at+7)
	wantFault(t, ahead+st("p{"+parted(0, 21)+"}"), api.ErrMany, at+2+len(parted(0, 20)))
	wantFault(t, ahead+st(strings.Repeat("p{}", 61)), api.ErrMany, at+180)
	wantFault(t, ahead+st(strings.Repeat(" ", api.MaxSheet+1)), api.ErrMuch, at)
	wantFault(t, ahead+st("p{a:"+strings.Repeat("b", 61)+"}"), api.ErrMuch, at+4)
	wantFault(t, `<style id="q">}</style>`, api.ErrForm, 14)
	wantFault(t, "<p>"+st("p{a}")+"</p>", api.ErrForm, 13)
	read(t, ahead+st(strings.Repeat(" ", api.MaxSheet)))
}

// F1: style by style ahead of there being too many rules, and that ahead of what can't be expanded.
func TestFaultOrder(t *testing.T) {
	wide, own := "p{edge:1 2 3 4 5}", `<p style="a">x</p>`
	rules := func(n int) string { return st(strings.Repeat("p{}", n)) }
	most := rules(30) + rules(30)
	many := rules(30) + rules(31)
	wantFault(t, own+st(wide)+many+st("p{"), api.ErrForm, len(own+st(wide)+many)+9)
	wantFault(t, own+st(wide)+many, api.ErrMany, 0)
	wantFault(t, own+st("p{}"+wide), api.ErrMany, len(own)+10)
	wantFault(t, own+st("b{edge:1}")+st(wide+wide), api.ErrMany, len(own+st("b{edge:1}"))+7)
	wantFault(t, own+most, api.ErrForm, 2)
	wantFault(t, `<p style="edge:1 2 3 4 5"></p>`+own, api.ErrMany, 2)
	wantFault(t, `<p></p><b id="q" style="edge:1 2 3 4 5;a"></b>`+own, api.ErrForm, 16)
}

// F1: just as many rules as may be, and one more, over several styles and with media.
func TestRuleCount(t *testing.T) {
	rules := func(n int) string { return strings.Repeat("p{}", n) }
	for _, s := range []string{
		st(rules(60)),
		st(rules(60)) + st("") + st(" "),
		st(rules(20)) + "<p>" + st(rules(20)) + "</p>" + st(rules(20)),
		st("@media w{"+rules(59)+"}") + st(rules(1)),
	} {
		if _, got := read(t, s); len(got) != api.MaxRules {
			t.Errorf("%q has %d rules", s, len(got))
		}
	}
	for _, s := range []string{
		st(rules(60)) + st(rules(1)),
		st(rules(1)) + st(rules(60)),
		st(rules(20)) + "<p>" + st(rules(20)) + "</p>" + st(rules(21)),
		st(rules(60)) + st(rules(60)),
		st("@media w{"+rules(59)+"}") + st(rules(2)),
	} {
		wantFault(t, s, api.ErrMany, 0)
	}
}

// F1: a rule that can't be expanded is told whomever it means, and wherever it counts.
func TestRuleFault(t *testing.T) {
	wantFault(t, st("p{edge:1 2 3 4 5}")+"<p>x</p>", api.ErrMany, 7)
	wantFault(t, st("b{a:b;edge:1 2 3 4;edge: 1 2 3 4 5 !important}"), api.ErrMany, 7)
	wantFault(t, "x"+st("b{}@media w{ i , b{edge:1 2 3 4 5}}"), api.ErrMany, 8+13)
	read(t, st("b{edge:1 2 3 4}p{edges:1 2 3 4 5}"))
}

// F1: an attribute `style` that can't be read, or expanded: at its blank.
func TestOwnFault(t *testing.T) {
	for _, c := range []struct {
		val string
		err api.Errno
	}{
		{"a", api.ErrForm},
		{"a:b;;", api.ErrForm},
		{"a:b}", api.ErrForm},
		{"/*", api.ErrForm},
		{"a:" + strings.Repeat("b", 61), api.ErrMuch},
		{strings.Repeat(" ", api.MaxSheet+1), api.ErrMuch},
		{parted(0, 21), api.ErrMany},
		{"edge:1 2 3 4 5", api.ErrMany},
		{"a:b; edge:1 2 3 4 5 !important;edge:1", api.ErrMany},
	} {
		own := ` style="` + c.val + `"`
		wantFault(t, "<p"+own+">x</p>", c.err, 2)
		wantFault(t, st("p{a:b}")+`<p style="a:b">x<b id="q"`+own+` class="a">x</b></p>`, c.err, 46)
		wantFault(t, "<style"+own+">b{}</style>", c.err, 6)
	}
	for _, val := range []string{"", " ", "/* a */", "a:b", "a:b;", "edge:1 2 3 4", strings.Repeat(" ", api.MaxSheet), parted(0, 20)} {
		read(t, `<p style="`+val+`">x</p>`)
	}
}

// F1: an attribute of another name, and an attribute `style` in a note, or a style, is none.
func TestNoOwn(t *testing.T) {
	for _, s := range []string{
		`<p styles="a" sty="b">x</p>`,
		`<!-- <p style="a"> --><p>x</p>`,
		st(`/* <p style="a"> */`),
	} {
		if _, _, f := fold.Read(s); f != (api.Fault{}) {
			t.Errorf("%q has the fault %v", s, f)
		}
	}
}
