package fold_test

import (
	"slices"
	"strings"
	"testing"
	"unsafe"

	"inkwell/api"
	"inkwell/fold"
)

// roomy is a list with what stands in spare behind it, out of its length.
func roomy[T any](l []T, spare ...T) []T { return slices.Concat(l, spare)[:len(l)] }

// made is lists with spare room behind each that would tell, if it were looked at.
func made() ([]api.Node, []api.Rule) {
	named := func(name string) api.Test { return api.Test{Kind: api.IsName, Name: name} }
	rule := func(name, media string, decls ...api.Decl) api.Rule {
		tests := roomy([]api.Test{named(name)}, named("none"))
		parts := roomy(api.Selector{{Tests: tests}}, api.Part{Join: api.Child, Tests: tests})
		return api.Rule{Media: media, Selectors: roomy([]api.Selector{parts}, api.Selector{{}}), Decls: roomy(decls, api.Decl{Name: "size"})}
	}
	attrs := roomy([]api.Attr{{Name: "class", Val: "a"}}, api.Attr{Name: "id", Val: "q"})
	l := []api.Node{{Name: "p", Parent: -1, Attrs: attrs}, {Name: "b", Attrs: attrs}}
	color, font := api.Decl{Name: "color", Val: "red"}, api.Decl{Name: "font", Val: "thin"}
	rules := []api.Rule{rule("p", "", color), rule("p", "", color, font), rule("b", "", color), rule("p", "wide", font), rule("i", "", font)}
	return roomy(l, api.Node{Name: "i", Parent: -1}), roomy(rules, rule("b", "dark", color), rule("i", "dark", font))
}

const madeStays = "yynyn"

// whole is all of the lists, their spare room too.
func whole(l []api.Node, rules []api.Rule) ([]api.Node, []api.Rule) {
	l, rules = slices.Clone(l[:cap(l)]), slices.Clone(rules[:cap(rules)])
	for k, n := range l {
		l[k].Attrs = slices.Clone(n.Attrs[:cap(n.Attrs)])
	}
	for i, r := range rules {
		rules[i].Decls = slices.Clone(r.Decls[:cap(r.Decls)])
		rules[i].Selectors = slices.Clone(r.Selectors[:cap(r.Selectors)])
		for j, s := range rules[i].Selectors {
			s = slices.Clone(s[:cap(s)])
			for k := range s {
				s[k].Tests = slices.Clone(s[k].Tests[:cap(s[k].Tests)])
			}
			rules[i].Selectors[j] = s
		}
	}
	return l, rules
}

// Z2: what is handed in is left as it was, with the spare room behind it, which is not looked at either.
func TestOnlyRead(t *testing.T) {
	l, rules := made()
	wasL, wasRules := whole(l, rules)
	if got := letters(fold.Stays(l, rules)); got != madeStays {
		t.Errorf("%s must stay, not %s", got, madeStays)
	}
	if isL, isRules := whole(l, rules); !same(isL, wasL) || !same(isRules, wasRules) {
		t.Errorf("what is handed in is changed to %v, %v", isL, isRules)
	}
}

// Z2: whoever handed lists in may change them afterwards.
func TestStaysKeepsNothing(t *testing.T) {
	l, rules := made()
	got := fold.Stays(l, rules)
	clear(l)
	clear(rules)
	if letters(got) != madeStays {
		t.Errorf("an answer is changed with what was handed in: %v", got)
	}
}

// Z2: an answer is the caller's, its spare room too: whatever is done with it, other answers are the same.
func TestOwnAnswers(t *testing.T) {
	l, rules := made()
	first, second := fold.Stays(l, rules), fold.Stays(l, rules)
	first = first[:cap(first)]
	for i := range first {
		first[i] = !first[i]
	}
	if third := fold.Stays(l, rules); letters(second) != madeStays || letters(third) != madeStays {
		t.Errorf("an answer is changed with another one: %v, %v", second, third)
	}
}

const bothKinds = `<p class="a" style="size:12">x<b id="q">y</b></p><style>p{color:red;font:f}b,i{color:blue}@media wide{b{size:9}}</style><style>#q{edge:1 2}</style>`

// Z2: no text of an answer lies in the page that was handed in, and no two lists of an answer share memory.
func TestNewMemory(t *testing.T) {
	for _, s := range []string{bothKinds, "<p>x</p>", strings.Repeat("text", 99)} {
		s = strings.Clone(s)
		l, rules := read(t, s)
		for _, x := range append(texts(l, rules), folded(t, s)) {
			if within(x, s) {
				t.Errorf("%q lies in what was handed in", x)
			}
		}
	}
	l, rules := read(t, bothKinds)
	fillRoom(l, rules)
	if again, more := read(t, bothKinds); !same(l, again) || !same(rules, more) {
		t.Errorf("lists of one answer share memory: %v, %v", l, rules)
	}
}

// texts is all texts of the lists.
func texts(l []api.Node, rules []api.Rule) []string {
	var out []string
	for _, n := range l {
		out = append(out, n.Name)
		for _, a := range n.Attrs {
			out = append(out, a.Name, a.Val)
		}
	}
	for _, r := range rules {
		out = append(out, r.Media)
		for _, d := range r.Decls {
			out = append(out, d.Name, d.Val)
		}
		for _, s := range r.Selectors {
			for _, p := range s {
				for _, x := range p.Tests {
					out = append(out, x.Name, x.Val)
				}
			}
		}
	}
	return out
}

// fillRoom writes into all the spare room of the lists.
func fillRoom(l []api.Node, rules []api.Rule) {
	_ = append(l, api.Node{Name: "mine"})
	_ = append(rules, api.Rule{Media: "mine"})
	for _, n := range l {
		_ = append(n.Attrs, api.Attr{Name: "mine"})
	}
	for _, r := range rules {
		_ = append(r.Decls, api.Decl{Name: "mine"})
		_ = append(r.Selectors, nil)
		for _, s := range r.Selectors {
			_ = append(s, api.Part{Join: 9})
			for _, p := range s {
				_ = append(p.Tests, api.Test{Kind: 9})
			}
		}
	}
}

// within: whether a text lies in the memory of another one.
func within(part, whole string) bool {
	if part == "" || whole == "" {
		return false
	}
	p, w := uintptr(unsafe.Pointer(unsafe.StringData(part))), uintptr(unsafe.Pointer(unsafe.StringData(whole)))
	return w <= p && p < w+uintptr(len(whole))
}

// Z1: the same question has the same answer, each time.
func TestSameAgain(t *testing.T) {
	want := folded(t, bothKinds)
	wasL, wasRules := read(t, bothKinds)
	for range 200 {
		l, rules := read(t, bothKinds)
		if folded(t, bothKinds) != want || !same(l, wasL) || !same(rules, wasRules) {
			t.Fatal("another answer")
		}
		if l, rules := made(); letters(fold.Stays(l, rules)) != madeStays {
			t.Fatal("others must stay")
		}
	}
}

// Z1: texts that are no pages, and pages of any bytes.
func TestAnyText(t *testing.T) {
	for b := range 256 {
		one := string([]byte{byte(b)})
		for _, s := range []string{one, "<" + one, "<p" + one + "></p>", `<p style="` + one + `"></p>`, st(one), st("p{" + one + "}"), st("p{a:" + one + "}")} {
			l, rules, f := fold.Read(s)
			out, g := fold.Fold(s)
			if f != g || f.Err != api.OK && (len(l)+len(rules) > 0 || out != "" || f.At > len(s)) {
				t.Errorf("%q is read with %v and folded with %v to %q", s, f, g, out)
			}
		}
	}
}
