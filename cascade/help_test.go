package cascade_test

import (
	"slices"
	"testing"

	"inkwell/api"
	"inkwell/cascade"
	"inkwell/page"
	"inkwell/sheet"
)

func readPage(t *testing.T, s string) []api.Node {
	t.Helper()
	l, f := page.Parse(s)
	if f != (api.Fault{}) {
		t.Fatalf("page %q has the fault %v", s, f)
	}
	return l
}

func readRules(t *testing.T, s string) []api.Rule {
	t.Helper()
	l, f := sheet.Parse(s)
	if f != (api.Fault{}) {
		t.Fatalf("sheet %q has the fault %v", s, f)
	}
	return l
}

// text is a look, written as its declarations would be.
func text(look api.Look) string {
	var l []api.Decl
	for _, w := range look {
		l = append(l, api.Decl{Name: w.Name, Val: w.Val, Strong: w.Strong})
	}
	return sheet.Print(l)
}

// wantLook: what is declared for element k of the list, as Print would write it.
func wantLook(t *testing.T, l []api.Node, k int, rules []api.Rule, media []string, want string) {
	t.Helper()
	got, err := cascade.Declared(l, k, rules, media)
	if err != api.OK || text(got) != want {
		t.Errorf("of %d, %v and %v %q, %d is declared, not %q", k, rules, media, text(got), err, want)
	}
}

// wantLast: what is declared for the last element of the page.
func wantLast(t *testing.T, from, rules, want string, media ...string) {
	t.Helper()
	l := readPage(t, from)
	wantLook(t, l, len(l)-1, readRules(t, rules), media, want)
}

// wantErr: both calls tell the error of element k, and nothing beside it.
func wantErr(t *testing.T, l []api.Node, k int, rules []api.Rule, media []string, want api.Errno) {
	t.Helper()
	if got, err := cascade.Declared(l, k, rules, media); err != want || len(got) != 0 {
		t.Errorf("of %d, %v and %v %v, %d is declared, not the error %d", k, rules, media, got, err, want)
	}
	for _, name := range []string{"color", "width", "edge", ""} {
		if got, err := cascade.Value(l, k, rules, media, name); err != want || got != "" {
			t.Errorf("of %d, %v and %v %s is %q, %d, not the error %d", k, rules, media, name, got, err, want)
		}
	}
}

func wantValue(t *testing.T, l []api.Node, k int, rules []api.Rule, media []string, name, want string) {
	t.Helper()
	if got, err := cascade.Value(l, k, rules, media, name); got != want || err != api.OK {
		t.Errorf("%s of %d is %q, %d, not %q", name, k, got, err, want)
	}
}

func node(name string, parent int, style string) api.Node {
	return api.Node{Name: name, Parent: parent, Attrs: []api.Attr{{Name: "style", Val: style}}}
}

// of is a rule that means each element of that name.
func of(name string, decls ...api.Decl) api.Rule {
	test := api.Test{Kind: api.IsName, Name: name}
	return api.Rule{Selectors: []api.Selector{{{Tests: []api.Test{test}}}}, Decls: decls}
}

func decl(name, val string) api.Decl { return api.Decl{Name: name, Val: val} }

func sameLook(a, b api.Look) bool { return slices.Equal(a, b) }
