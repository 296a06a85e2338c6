package sheet_test

import (
	"strings"
	"testing"
	"unsafe"

	"inkwell/api"
	"inkwell/sheet"
)

const someRules = "@media a{p.a b,i{c:d;e:f g}}p+[b=c]{c:d!important}"

// texts is all texts of rules, empty ones left out.
func texts(l []api.Rule) []string {
	var out []string
	add := func(l ...string) {
		for _, s := range l {
			if s != "" {
				out = append(out, s)
			}
		}
	}
	for _, r := range l {
		add(r.Media)
		for _, s := range r.Selectors {
			for _, p := range s {
				for _, x := range p.Tests {
					add(x.Name, x.Val)
				}
			}
		}
		for _, d := range r.Decls {
			add(d.Name, d.Val)
		}
	}
	return out
}

// Z2: nothing of the text is kept: whoever handed it in may change its bytes, if they are his.
func TestNothingIsKept(t *testing.T) {
	room := []byte(someRules)
	l, _ := sheet.Parse(unsafe.String(&room[0], len(room)))
	got := strings.Join(texts(l), "|")
	clear(room)
	if again := strings.Join(texts(l), "|"); again != got {
		t.Errorf("%q was %q", again, got)
	}
	room = []byte("a:b;c:d e!important")
	d, _ := sheet.Decls(unsafe.String(&room[0], len(room)))
	printed := sheet.Print(d)
	clear(room)
	if again := sheet.Print(d); again != printed || printed != "a: b; c: d e !important" {
		t.Errorf("%q was %q", again, printed)
	}
}

// spoil overwrites a list and its spare room.
func spoil[T any](l []T, with T) {
	room := l[:cap(l)]
	for i := range room {
		room[i] = with
	}
}

// Z2: each list of an answer is memory of its own, its spare room too.
func TestListsAreTheCallers(t *testing.T) {
	want, _ := sheet.Parse(someRules)
	for i := range want {
		l, _ := sheet.Parse(someRules)
		spoil(l[i].Decls, decl("spoilt", ""))
		l[i].Decls = want[i].Decls
		if !sameRules(l, want) {
			t.Errorf("declarations of %d share memory: %v", i, l)
		}
		spoil(l[i].Selectors, nil)
		l[i].Selectors = want[i].Selectors
		if !sameRules(l, want) {
			t.Errorf("selectors of %d share memory: %v", i, l)
		}
		for k := range want[i].Selectors {
			l, _ := sheet.Parse(someRules)
			for n := range want[i].Selectors[k] {
				spoil(l[i].Selectors[k][n].Tests, name("spoilt"))
				l[i].Selectors[k][n].Tests = want[i].Selectors[k][n].Tests
				if !sameRules(l, want) {
					t.Errorf("tests of part %d of %d share memory: %v", n, i, l)
				}
			}
			spoil(l[i].Selectors[k], api.Part{Join: -1})
			l[i].Selectors[k] = want[i].Selectors[k]
			if !sameRules(l, want) {
				t.Errorf("parts of selector %d of %d share memory: %v", k, i, l)
			}
		}
	}
	l, _ := sheet.Parse(someRules)
	spoil(l, api.Rule{Media: "spoilt"})
	wantRules(t, someRules, want...)
}

// Z2: what is handed to Print is only read, and not looked behind.
func TestPrintOnlyReads(t *testing.T) {
	l := []api.Decl{decl("a", "b"), strong("c", "d"), decl("e", "f")}
	sheet.Print(l)
	sheet.Print(l[:2])
	if !sameList(l, []api.Decl{decl("a", "b"), strong("c", "d"), decl("e", "f")}) {
		t.Errorf("changed: %v", l)
	}
}

// Example 2 of the document.
func TestExample(t *testing.T) {
	l, f := sheet.Decls("color: red; size:12")
	if got := sheet.Print(l); f != (api.Fault{}) || got != "color: red; size: 12" {
		t.Errorf("%q %v", got, f)
	}
}

// "a rule that is blanked out is gone, and nothing else."
func TestBlankedRuleIsGone(t *testing.T) {
	for _, s := range []string{
		"p{a:b}b , i{c:d}*{}", "@media a{p{}b{}}i{}@media b{p{}}", " p{}/**/ @media a { b{c:d}/* x */\n}i{} ", someRules,
	} {
		all, f := sheet.Parse(s)
		if f != (api.Fault{}) {
			t.Fatalf("%q: %v", s, f)
		}
		for i, r := range all {
			blank := s[:r.At.From] + strings.Repeat(" ", r.At.To-r.At.From) + s[r.At.To:]
			var want []api.Rule
			want = append(append(want, all[:i]...), all[i+1:]...)
			wantRules(t, blank, want...)
		}
	}
}
