package cascade_test

import (
	"slices"
	"strings"
	"testing"

	"inkwell/api"
	"inkwell/cascade"
)

// E1: ordinary elements and rules.
func TestDeclared(t *testing.T) {
	l := readPage(t, `<p class="a" id="q">x<b style="size:12; color: red">y<i>z</i></b></p>`)
	rules := readRules(t, "p{color:red}b{width:5}.a{size:11;font:thin}p > b{color:blue}i{}p i{edge:1 2}")
	wantLook(t, l, 0, rules, nil, "color: red; font: thin; size: 11")
	wantLook(t, l, 1, rules, nil, "color: red; size: 12; width: 5")
	wantLook(t, l, 2, rules, nil, "edge-bottom: 1; edge-left: 2; edge-right: 2; edge-top: 1")
}

// E1: there is no element below 0, nor behind the last one.
func TestNoElement(t *testing.T) {
	l := readPage(t, `<p style="color:red">x</p><b>y</b>`)
	for _, rules := range [][]api.Rule{nil, readRules(t, "p{color:red}*{size:1}"), readRules(t, "*{edge:1 2 3 4 5}")} {
		for _, k := range []int{-1 << 63, -2, -1, 2, 3, 1<<63 - 1} {
			wantErr(t, l, k, rules, nil, api.ErrNone)
			wantErr(t, l[:0], k, rules, []string{"wide"}, api.ErrNone)
		}
		wantErr(t, nil, 0, rules, nil, api.ErrNone)
		wantErr(t, l[:1], 1, rules, nil, api.ErrNone)
	}
}

// E1: without rules only an element's own declarations are left.
func TestNoRules(t *testing.T) {
	l := readPage(t, `<p style="width:1;color:red !important">x</p><b style="">y</b><i style=" /* none */ ">z</i><u>z</u>`)
	for _, rules := range [][]api.Rule{nil, {}} {
		for _, media := range [][]string{nil, {}, {"wide"}} {
			wantLook(t, l, 0, rules, media, "color: red !important; width: 1")
			wantLook(t, l, 1, rules, media, "")
			wantLook(t, l, 2, rules, media, "")
			wantLook(t, l, 3, rules, media, "")
		}
	}
}

// E1: a rule that does not mean the element claims nothing, nor does one without selectors or declarations.
func TestRulesOfOthers(t *testing.T) {
	l := readPage(t, "<p>x<b>y</b></p>")
	rules := readRules(t, "i{color:red}b p{color:blue}.a,#q{color:green}p > b,i{size:1}")
	rules = append(rules, api.Rule{Decls: []api.Decl{decl("color", "none")}}, of("b"))
	rules = append(rules, api.Rule{Selectors: []api.Selector{nil, {}}, Decls: []api.Decl{decl("font", "none")}})
	wantLook(t, l, 0, rules, nil, "")
	wantLook(t, l, 1, rules, nil, "size: 1")
}

// E1: a rule with media counts where these are among those that are so, as often as they are told; one without always.
func TestMedia(t *testing.T) {
	l := readPage(t, "<p>x</p>")
	rules := readRules(t, "@media wide{p{color:w;size:1}}p{color:v}@media dark{p{size:2}p{font:d}}p{width:3}")
	for _, c := range []struct {
		media []string
		want  string
	}{
		{nil, "color: v; width: 3"},
		{[]string{}, "color: v; width: 3"},
		{[]string{"wide"}, "color: v; size: 1; width: 3"},
		{[]string{"wide", "wide"}, "color: v; size: 1; width: 3"},
		{[]string{"dark"}, "color: v; font: d; size: 2; width: 3"},
		{[]string{"wide", "dark"}, "color: v; font: d; size: 2; width: 3"},
		{[]string{"dark", "narrow", "wide"}, "color: v; font: d; size: 2; width: 3"},
		{[]string{"", "Wide", "wid", "wider", "wide "}, "color: v; width: 3"},
	} {
		wantLook(t, l, 0, rules, c.media, c.want)
	}
}

// E1: media are held against each other byte by byte, whatever bytes they are.
func TestOddMedia(t *testing.T) {
	l := readPage(t, "<p>x</p>")
	for _, m := range []string{" ", "\x00", "wide,dark", "*", "all", "\xff"} {
		r := of("p", decl("color", "red"))
		r.Media = m
		wantLook(t, l, 0, []api.Rule{r}, nil, "")
		wantLook(t, l, 0, []api.Rule{r}, []string{"", "wide", "dark"}, "")
		wantLook(t, l, 0, []api.Rule{r}, []string{"wide", m}, "color: red")
	}
}

// E1: what wins: strong ones, then own ones, then the greater weight, then the later one.
func TestWins(t *testing.T) {
	const bare, styled = `<p class="a" id="q">x</p>`, `<p class="a" id="q" style="color:own">x</p>`
	const strong = `<p class="a" id="q" style="color:own !important">x</p>`
	for _, c := range []struct{ page, rules, want string }{
		// Strong over not, whatever else there is.
		{bare, "p{color:s !important}#q.a{color:n}", "color: s !important"},
		{bare, "#q.a{color:n}p{color:s !important}", "color: s !important"},
		{bare, "p{color:s !important}p{color:n}", "color: s !important"},
		{styled, "p{color:s !important}", "color: s !important"},
		{styled, "p{color:s !important}#q{color:n}", "color: s !important"},
		{strong, "#q.a{color:n}", "color: own !important"},
		// Own over others, if both are strong, or neither is.
		{styled, "#q.a{color:n}", "color: own"},
		{styled, "p{color:n}", "color: own"},
		{strong, "#q.a{color:s !important}", "color: own !important"},
		{strong, "p{color:s !important}", "color: own !important"},
		// The greater weight, ahead and behind.
		{bare, "#q{color:i}.a{color:c}p{color:n}", "color: i"},
		{bare, "p{color:n}.a{color:c}#q{color:i}", "color: i"},
		{bare, ".a{color:c}p{color:n}", "color: c"},
		{bare, "p.a{color:two}.a{color:one}", "color: two"},
		{bare, ".a.a{color:two}p.a{color:one}", "color: two"},
		{bare, "#q{color:one}.a.a.a:first{color:many}", "color: one"},
		{bare, "p{color:n}*{color:all}", "color: n"},
		{bare, "#q{color:i !important}p{color:n !important}", "color: i !important"},
		{bare, "p{color:n !important}#q{color:i !important}", "color: i !important"},
		// Of one rule's selectors the greatest weight that means the element.
		{bare, "p,#q{color:best}.a{color:c}", "color: best"},
		{bare, "#q,p{color:best}.a{color:c}", "color: best"},
		{bare, "p,#other{color:best}.a{color:c}p{color:n}", "color: c"},
		// The later one of equal weights.
		{bare, "p{color:one}p{color:two}", "color: two"},
		{bare, "p{color:one}p{color:two}p{color:one}", "color: one"},
		{bare, ".a{color:one}:first{color:two}", "color: two"},
		{bare, "[class=a]{color:one}.a{color:two}[id]{color:three}", "color: three"},
		{bare, "*{color:one}*{color:two}", "color: two"},
		{bare, "p{color:one !important}p{color:two !important}", "color: two !important"},
	} {
		wantLast(t, c.page, c.rules, c.want)
	}
}

// E1: a property that is declared twice in one rule, or twice in a style.
func TestTwice(t *testing.T) {
	for _, c := range []struct{ style, rules, want string }{
		{"", "p{color:one;color:two}", "color: two"},
		{"", "p{color:one !important;color:two}", "color: one !important"},
		{"", "p{color:one;color:two !important}", "color: two !important"},
		{"", "p{color:one !important;color:two !important}", "color: two !important"},
		{"", "p{color:one;size:1;color:two;size:2}", "color: two; size: 2"},
		{"color:one;color:two", "", "color: two"},
		{"color:one !important;color:two", "", "color: one !important"},
		{"color:one;color:two !important", "", "color: two !important"},
		{"color:one !important;color:two !important", "", "color: two !important"},
		{"color:one;color:two", "p{color:three;color:four}", "color: two"},
		{"color:one;color:two", "p{color:three !important;color:four}", "color: three !important"},
	} {
		wantLast(t, `<p style="`+c.style+`">x</p>`, c.rules, c.want)
	}
}

// E1: an edge claims its four sides, one by one, and never itself.
func TestEdges(t *testing.T) {
	for _, c := range []struct{ style, rules, want string }{
		{"", "p{edge:1 2 3 4}", "edge-bottom: 3; edge-left: 4; edge-right: 2; edge-top: 1"},
		{"", "p{edge:1;edge-left:9}", "edge-bottom: 1; edge-left: 9; edge-right: 1; edge-top: 1"},
		{"", "p{edge-left:9;edge:1}", "edge-bottom: 1; edge-left: 1; edge-right: 1; edge-top: 1"},
		{"", "p{edge-left:9 !important;edge:1}", "edge-bottom: 1; edge-left: 9 !important; edge-right: 1; edge-top: 1"},
		{"", "p{edge:1 !important}p{edge-top:2}", "edge-bottom: 1 !important; edge-left: 1 !important; edge-right: 1 !important; edge-top: 1 !important"},
		{"", ":first{edge-top:7}p{edge:1}", "edge-bottom: 1; edge-left: 1; edge-right: 1; edge-top: 7"},
		{"edge-right:5", "p{edge:1}", "edge-bottom: 1; edge-left: 1; edge-right: 5; edge-top: 1"},
		{"edge:5 6", "p{edge-right:1;edge-top:2 !important}", "edge-bottom: 5; edge-left: 6; edge-right: 6; edge-top: 2 !important"},
		{"edge:5 6;edge-left:7;edge-side:8", "", "edge-bottom: 5; edge-left: 7; edge-right: 6; edge-side: 8; edge-top: 5"},
	} {
		wantLast(t, `<p style="`+c.style+`">x</p>`, c.rules, c.want)
	}
}

// E1: names rise, byte by byte, each one once, wherever it is claimed.
func TestNamesRise(t *testing.T) {
	names := []string{"b", "a", "", "Z", "aa", "a-b", "a1", "\xff", "é", "a b", "\x00", "z", "ab", "edge-top", "-", "a\x00"}
	rising := slices.Clone(names)
	slices.Sort(rising)
	l := []api.Node{{Name: "p", Parent: -1, Attrs: []api.Attr{{Name: "style", Val: "ab:own;z:own"}}}}
	for range names {
		names = append(names[1:], names[0])
		var rules []api.Rule
		for i, n := range names {
			rules = append(rules, of("p", decl(n, n), decl(names[len(names)-1-i], "again"), decl(n, n)))
		}
		look, err := cascade.Declared(l, 0, rules, nil)
		var got []string
		for _, w := range look {
			got = append(got, w.Name)
		}
		if err != api.OK || !slices.Equal(got, rising) {
			t.Fatalf("the names are %q, %d, not %q", got, err, rising)
		}
	}
}

// E1: texts that no sheet has are claimed as they are; Strong ones are told so.
func TestOddTexts(t *testing.T) {
	rules := []api.Rule{of("p", api.Decl{Strong: true}, decl("Color", "a;b"), decl("color", ""), decl("edge", ""))}
	want := api.Look{{Strong: true}, {Name: "Color", Val: "a;b"}, {Name: "color"}, {Name: "edge-bottom"}, {Name: "edge-left"}, {Name: "edge-right"}, {Name: "edge-top"}}
	if got, err := cascade.Declared([]api.Node{{Name: "p"}}, 0, rules, nil); err != api.OK || !sameLook(got, want) {
		t.Errorf("%v, %d is declared, not %v", got, err, want)
	}
}

// E1: only the first attribute `style` counts, and no other attribute does.
func TestWhichStyle(t *testing.T) {
	n := api.Node{Name: "p", Attrs: []api.Attr{
		{Name: "Style", Val: "color:a"}, {Name: "styles", Val: "oops"}, {Name: "", Val: "color:b"},
		{Name: "style", Val: "color:c"}, {Name: "style", Val: "oops"}, {Name: "style", Val: "size:1"},
	}}
	wantLook(t, []api.Node{n}, 0, nil, nil, "color: c")
	n.Attrs = n.Attrs[:3]
	wantLook(t, []api.Node{n}, 0, nil, nil, "")
}

// E1: what can't be read, or not be expanded, of what counts for the element.
func TestErrors(t *testing.T) {
	const much = "edge:1 2 3 4 5"
	long := strings.Repeat(" ", api.MaxSheet)
	for _, c := range []struct {
		style, rules string
		want         api.Errno
	}{
		{"", "p{" + much + "}", api.ErrMany},
		{"", "p{color:red;" + much + ";size:1}p{color:blue}", api.ErrMany},
		{"", "p{edge:1}p{" + much + " !important}", api.ErrMany},
		{"", "@media wide{p{" + much + "}}", api.ErrMany},
		{"", "i,p{" + much + "}", api.ErrMany},
		{"oops", "", api.ErrForm},
		{"color:red;;", "", api.ErrForm},
		{"color:red}", "", api.ErrForm},
		{"abcdefghijklmnopqrstu:1", "", api.ErrForm},
		{"/*", "p{color:red}", api.ErrForm},
		{strings.Repeat("a:b;", api.MaxDecls+1), "", api.ErrMany},
		{"a:" + strings.Repeat("b", api.MaxVal+1), "", api.ErrMuch},
		{long + " ", "", api.ErrMuch},
		{much, "", api.ErrMany},
		{"color:red;" + much + ";edge:1", "p{color:blue !important}", api.ErrMany},
		// The first of several ones: the rules' ahead of the style's, what is read ahead of what is expanded.
		{"oops", "p{" + much + "}", api.ErrMany},
		{long + " ", "p{color:red}p{" + much + "}", api.ErrMany},
		{much + ";oops", "", api.ErrForm},
		{much + ";a:" + strings.Repeat("b", api.MaxVal+1), "", api.ErrMuch},
	} {
		l := readPage(t, "<b>x</b><p>y</p>")
		l[1].Attrs = []api.Attr{{Name: "style", Val: c.style}}
		rules := readRules(t, c.rules)
		wantErr(t, l, 1, rules, []string{"wide"}, c.want)
		if got, err := cascade.Declared(l, 0, rules, []string{"wide"}); len(got) != 0 || err != api.OK {
			t.Errorf("another element's error is told: %v %d", got, err)
		}
	}
	wantLook(t, []api.Node{node("p", -1, long)}, 0, nil, nil, "")
	wantLook(t, []api.Node{node("p", -1, strings.Repeat("a:b;", api.MaxDecls))}, 0, nil, nil, "a: b")
}

// E1: what does not count for the element has no error.
func TestErrorsOfOthers(t *testing.T) {
	l := readPage(t, `<p>x<b>y</b></p><i style="oops">z</i>`)
	rules := readRules(t, "p{edge:1 2 3 4 5}@media wide{b{edge:1 2 3 4 5}}b{width:7}i b{edge:1 2 3 4 5}")
	wantErr(t, l, 0, rules, nil, api.ErrMany)
	wantLook(t, l, 1, rules, nil, "width: 7")
	wantLook(t, l, 1, rules, []string{"dark"}, "width: 7")
	wantErr(t, l, 1, rules, []string{"dark", "wide"}, api.ErrMany)
	wantErr(t, l, 2, rules, nil, api.ErrForm)
}
