package fold_test

import (
	"slices"
	"strings"
	"testing"

	"inkwell/api"
	"inkwell/fold"
)

const some = `<p class="a">x<b id="q">y</b></p><i>z</i>`

// F2: a rule with media must stay, whatever it declares, and whether it means somebody or not.
func TestMediaStay(t *testing.T) {
	wantStays(t, some, "")
	wantStays(t, st("")+some, "")
	wantStays(t, st("p{a:b}")+some, "n")
	wantStays(t, st("@media w{p{a:b}}")+some, "y")
	wantStays(t, st("@media w{u{a:b}p{}u{}}")+some, "yyy")
	wantStays(t, st("p{a:b}*{a:b}b{a:c !important}")+some, "nnn")
}

// F2: a rule meets another one by an element and a property, not by one of them alone.
func TestMeets(t *testing.T) {
	for _, c := range []struct{ sheet, want string }{
		{"p{a:b}@media w{p{a:c}}", "yy"},
		{"p{a:b}@media w{p{c:b}}", "ny"},
		{"p{a:b}@media w{b{a:b}}", "ny"},
		{"p{a:b}@media w{b{c:d}}", "ny"},
		{"@media w{p{a:c}}p{a:b}", "yy"},
		{"@media w{p{a:c}}p{c:b}", "yn"},
		{"@media w{p{a:c}}b{a:b}", "yn"},
		{"*{a:b}@media w{.a{a:c}}", "yy"},
		{".a{a:b}@media w{p{a:c}}", "yy"},
		{"p b,i{a:b}@media w{#q,u{a:c}}", "yy"},
		{"p b,i{a:b}@media w{p,u{a:c}}", "ny"},
		{"p{c:d;a:b}@media w{p{e:f;a:c}}", "yy"},
		{"p{c:d;a:b}@media w{p{e:f;g:c}}", "ny"},
		{"p{}@media w{p{a:c}}", "ny"},
		{"p{a:b}@media w{p{}}", "ny"},
		{"p{a:b !important}@media w{p{a:c}}", "yy"},
		{"p{a:b}@media w{p{a:c !important}}", "yy"},
		{"b{a:b}@media w{p{a:c}}i{a:d}", "nyn"},
		{"p,b{a:b}@media w{i{a:c}}@media v{p{c:d}}b{c:d}", "nyyn"},
	} {
		wantStays(t, st(c.sheet)+some, c.want)
	}
}

// F2: properties are those of expanded declarations.
func TestMeetsBySides(t *testing.T) {
	for _, c := range []struct{ sheet, want string }{
		{"p{edge:1}@media w{p{edge-left:2}}", "yy"},
		{"p{edge-top:1}@media w{p{edge:2}}", "yy"},
		{"p{edge:1}@media w{p{edge:2}}", "yy"},
		{"p{edge-top:1}@media w{p{edge-left:2}}", "ny"},
		{"p{edge-top:1}@media w{p{edge-left:2}}p{edge:3}", "yyy"},
		{"p{edge:1}@media w{p{edges:2}}", "ny"},
		{"p{edge:1}@media w{p{ed:2;edge-:1}}", "ny"},
	} {
		wantStays(t, st(c.sheet)+some, c.want)
	}
}

// F2: a rule that meets one that must stay must stay, and so on, whichever stands first.
func TestMeetsThroughOthers(t *testing.T) {
	for _, c := range []struct{ sheet, want string }{
		{"p{a:b}p{a:c;c:d}@media w{p{c:e}}", "yyy"},
		{"@media w{p{c:e}}p{a:c;c:d}p{a:b}", "yyy"},
		{"p{a:b}@media w{p{c:e}}p{a:c;c:d}", "yyy"},
		{"i{a:b}i,b{a:c}@media w{b{a:d}}", "yyy"},
		{"i{a:b}i,b{a:c}@media w{p{a:d}}", "nny"},
		{"i{a:b}i{c:d;a:c}b,i{c:e}p,b{c:f}@media w{p{c:g}}", "yyyyy"},
		{"@media w{p{c:g}}p,b{c:f}b,i{c:e}i{c:d;a:c}i{a:b}", "yyyyy"},
		{"i{a:b}i{e:d;a:c}b,i{c:e}p,b{c:f}@media w{p{c:g}}", "nnyyy"},
		{"p{a:b}u{a:c;c:d}@media w{p{c:e}}", "nny"},
	} {
		wantStays(t, st(c.sheet)+some, c.want)
	}
}

// F2: a long chain, of which each rule meets the next one alone, in either order and from the middle.
func TestChain(t *testing.T) {
	link := func(i int) string { return "p{" + parted(i, i+2) + "}" }
	var up, down string
	for i := range 59 {
		up, down = up+link(i), link(i)+down
	}
	for _, chain := range []string{up, down} {
		for _, end := range []string{"a0", "a59", "a30"} {
			wantStays(t, st(chain)+st("@media w{p{"+end+":c}}")+some, strings.Repeat("y", 60))
		}
		wantStays(t, st(chain)+st("@media w{p{a60:c}}")+some, strings.Repeat("n", 59)+"y")
		wantStays(t, st(chain)+st("@media w{b{a0:c}}")+some, strings.Repeat("n", 59)+"y")
	}
}

// F2: rules that mean nobody meet nobody.
func TestNobody(t *testing.T) {
	wantStays(t, st("u{a:b}@media w{u{a:c}}")+some, "ny")
	wantStays(t, st("u{a:b}p>i{a:b}@media w{*{a:c}}")+some, "nny")
	wantStays(t, st("*{a:b}@media w{u{a:c}}")+some, "ny")
	// A style is an element too.
	wantStays(t, st("*{a:b}@media w{style{a:c}}"), "yy")
}

// F2: a rule means elements of any style's page, not of its own place alone.
func TestSeveralStyles(t *testing.T) {
	wantStays(t, st("p{a:b}")+some+st("b{a:b}")+"<u>"+st("@media w{b{a:c}}")+"</u>"+st("*{a:d}"), "yyyy")
	wantStays(t, st("p{a:b}")+some+st("b{c:b}")+"<u>"+st("@media w{b{a:c}}")+"</u>"+st("b{a:d}"), "nnyy")
}

// F2, Z3: nil and empty lists.
func TestStaysOfNothing(t *testing.T) {
	l, rules := read(t, st("p{a:b}@media w{p{a:c}}")+some)
	for _, none := range [][]api.Rule{nil, {}} {
		for _, nodes := range [][]api.Node{nil, {}, l} {
			if got := fold.Stays(nodes, none); len(got) != 0 {
				t.Errorf("of no rules %v stay", got)
			}
		}
	}
	for _, nodes := range [][]api.Node{nil, {}} {
		if got := letters(fold.Stays(nodes, rules)); got != "ny" {
			t.Errorf("of no elements %s must stay", got)
		}
	}
	bare := []api.Rule{{}, {Media: "w"}, {Selectors: []api.Selector{}, Decls: []api.Decl{}}, {Selectors: []api.Selector{nil, {}}, Decls: rules[0].Decls}}
	if got := letters(fold.Stays(l, bare)); got != "nynn" {
		t.Errorf("of bare rules %s must stay", got)
	}
	empty := api.Rule{Selectors: []api.Selector{{{Tests: []api.Test{}}}}, Decls: rules[0].Decls}
	if got := letters(fold.Stays(l, append(rules, empty))); got != "yyy" {
		t.Errorf("of a rule of all elements %s must stay", got)
	}
}

// Z1: lists that no page gives: no call panics, and each one ends.
func TestOddLists(t *testing.T) {
	l, rules := read(t, st("p b{a:b}p+i{a:b}:first{edge:1}p>b{a:d}@media w{*{a:c}}")+some)
	for _, parent := range []int{-1 << 63, -1, 0, 1, 2, 3, 4, 1<<63 - 1} {
		odd := slices.Clone(l)
		for k := range odd {
			odd[k].Parent = parent
			odd[k].Inner = api.Span{From: parent, To: -parent}
			odd[k].NameEnd = parent
		}
		strange := slices.Clone(rules)
		for i := range strange {
			strange[i].At = api.Span{From: parent, To: -parent}
		}
		// A rule of all elements whose declarations can't be expanded has none.
		strange = append(strange, api.Rule{Selectors: []api.Selector{{{Join: 77}}}, Decls: []api.Decl{{Name: "a"}, {Name: "edge", Val: "1 2 3 4 5"}}})
		strange = append(strange, api.Rule{Selectors: []api.Selector{{{}}}, Decls: []api.Decl{{Name: "a", Val: "\xff\x00"}}})
		got := letters(fold.Stays(odd, strange))
		if len(got) != len(strange) || got[4:] != "yny" {
			t.Errorf("with the parent %d %s must stay", parent, got)
		}
	}
}

// Z1: more elements and rules than a page may have.
func TestLongLists(t *testing.T) {
	var l []api.Node
	for k := range 1000 {
		l = append(l, api.Node{Name: "p", Parent: k - 1})
	}
	_, one := read(t, st("p{a:b}p{a:b;c:d}p{c:e}u{c:e}p{f:g}@media w{p p{c:d}}"))
	var rules []api.Rule
	for range 50 {
		rules = append(rules, one...)
	}
	if got := letters(fold.Stays(l, rules)); got != strings.Repeat("yyynny", 50) {
		t.Errorf("of long lists %s must stay", got)
	}
	many := slices.Repeat(one[:1], 2000)
	if got := letters(fold.Stays(l[:9], append(many, one[5]))); got != strings.Repeat("n", 2000)+"y" {
		t.Error("of many rules others must stay")
	}
	if got := letters(fold.Stays(l[:9], append(many, one[1], one[5]))); got != strings.Repeat("y", 2002) {
		t.Error("of many rules not all must stay")
	}
}
