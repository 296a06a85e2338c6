package cascade_test

import (
	"reflect"
	"slices"
	"strings"
	"testing"
	"unsafe"

	"inkwell/api"
	"inkwell/cascade"
)

// roomy is a list with what stands in spare behind it, out of its length.
func roomy[T any](l []T, spare ...T) []T { return slices.Concat(l, spare)[:len(l)] }

// given is all that a call is handed, with spare room behind each list that would tell, if it were looked at.
type given struct {
	l     []api.Node
	rules []api.Rule
	media []string
}

// newText is made anew each time, so that it does not lie where a text of the program lies.
func newText(s string) string { return strings.Clone(s) }

func made() given {
	attrs := roomy([]api.Attr{{Name: newText("class"), Val: newText("a")}, {Name: newText("style"), Val: newText("size:12;edge:11 22")}}, api.Attr{Name: "id", Val: "q"})
	bare := roomy([]api.Attr{}, api.Attr{Name: "style", Val: "color:spare"})
	test := func(kind int, name string) api.Test { return api.Test{Kind: kind, Name: newText(name)} }
	tests := roomy([]api.Test{test(api.IsName, "p")}, test(api.IsID, "q"))
	parts := roomy(api.Selector{{Tests: tests}}, api.Part{Join: api.Child, Tests: tests})
	selectors := roomy([]api.Selector{parts}, api.Selector{{}})
	decls := roomy([]api.Decl{decl(newText("color"), newText("red")), {Name: newText("edge"), Val: newText("33"), Strong: true}}, decl("color", "spare"))
	rule := api.Rule{Selectors: selectors, Decls: decls}
	wide := rule
	wide.Media, wide.Decls = newText("wide"), roomy([]api.Decl{decl(newText("font"), newText("thin"))}, decl("font", "spare"))
	spare := api.Rule{Selectors: []api.Selector{{{}}}, Decls: []api.Decl{decl("color", "spare"), decl("edge", "1 2 3 4 5")}}
	dark := spare
	dark.Media = "dark"
	return given{
		l:     roomy([]api.Node{{Name: newText("p"), Parent: -1, Attrs: attrs}, {Name: newText("b"), Attrs: bare}}, node("p", 0, "oops")),
		rules: roomy([]api.Rule{rule, wide, dark}, spare),
		media: roomy([]string{newText("wide")}, "dark"),
	}
}

// whole is all of what is given, its spare room too.
func (g given) whole() given {
	out := given{slices.Clone(g.l[:cap(g.l)]), slices.Clone(g.rules[:cap(g.rules)]), slices.Clone(g.media[:cap(g.media)])}
	for i := range out.l {
		a := out.l[i].Attrs
		out.l[i].Attrs = slices.Clone(a[:cap(a)])
	}
	for i := range out.rules {
		r := &out.rules[i]
		r.Decls = slices.Clone(r.Decls[:cap(r.Decls)])
		r.Selectors = slices.Clone(r.Selectors[:cap(r.Selectors)])
		for j, s := range r.Selectors {
			s = slices.Clone(s[:cap(s)])
			for k := range s {
				s[k].Tests = slices.Clone(s[k].Tests[:cap(s[k].Tests)])
			}
			r.Selectors[j] = s
		}
	}
	return out
}

// spoil changes all of what was given.
func (g given) spoil() {
	for i := range g.l {
		clear(g.l[i].Attrs)
	}
	for i := range g.rules {
		clear(g.rules[i].Decls)
	}
	clear(g.l)
	clear(g.rules)
	clear(g.media)
}

const madeLook = "color: red; edge-bottom: 33 !important; edge-left: 33 !important; edge-right: 33 !important; edge-top: 33 !important; font: thin; size: 12"

// Z2: what is handed in is left as it was, with the spare room behind it, which is not looked at either.
func TestOnlyRead(t *testing.T) {
	g := made()
	before := g.whole()
	wantLook(t, g.l, 0, g.rules, g.media, madeLook)
	wantLook(t, g.l, 1, g.rules, g.media, "")
	wantValue(t, g.l, 1, g.rules, g.media, "color", "red")
	wantValue(t, g.l, 1, g.rules, g.media, "width", "none")
	wantErr(t, g.l, 2, g.rules, g.media, api.ErrNone)
	wantErr(t, g.l, 0, g.rules[:4], g.media, api.ErrMany)
	if after := g.whole(); !reflect.DeepEqual(before, after) {
		t.Errorf("what is handed in is changed from %v to %v", before, after)
	}
}

// Z2: whoever handed it in may change it afterwards.
func TestNothingKept(t *testing.T) {
	g := made()
	look, err := cascade.Declared(g.l, 0, g.rules, g.media)
	val, _ := cascade.Value(g.l, 1, g.rules, g.media, "font")
	for _, w := range look {
		for _, s := range []string{w.Name, w.Val} {
			for _, from := range []string{g.rules[0].Decls[0].Name, g.rules[0].Decls[0].Val, g.rules[0].Decls[1].Val, g.rules[1].Decls[0].Name, g.rules[1].Decls[0].Val, g.l[0].Attrs[1].Val} {
				if within(s, from) {
					t.Errorf("%q lies in what was handed in", s)
				}
			}
		}
	}
	if within(val, g.rules[1].Decls[0].Val) {
		t.Error("a value lies in what was handed in")
	}
	g.spoil()
	if err != api.OK || text(look) != madeLook || val != "thin" {
		t.Errorf("an answer is changed with what was handed in: %v %d %s", look, err, val)
	}
}

// within: whether a text lies in the memory of another one.
func within(part, whole string) bool {
	if part == "" || whole == "" {
		return false
	}
	p, w := uintptr(unsafe.Pointer(unsafe.StringData(part))), uintptr(unsafe.Pointer(unsafe.StringData(whole)))
	return w <= p && p < w+uintptr(len(whole))
}

// Z2: an answer is the caller's, its spare room too: whatever is done with it, other answers are the same.
func TestOwnAnswers(t *testing.T) {
	g := made()
	first, _ := cascade.Declared(g.l, 0, g.rules, g.media)
	second, _ := cascade.Declared(g.l, 0, g.rules, g.media)
	first = first[:cap(first)]
	for i := range first {
		first[i] = api.Won{Name: "mine", Val: "mine", Strong: true}
	}
	third, _ := cascade.Declared(g.l, 0, g.rules, g.media)
	if text(second) != madeLook || text(third) != madeLook {
		t.Errorf("an answer is changed with another one: %v, %v", second, third)
	}
}

// Z1: the same question has the same answer, each time.
func TestSameAgain(t *testing.T) {
	for range 200 {
		g := made()
		wantLook(t, g.l, 0, g.rules, g.media, madeLook)
	}
}
