package match_test

import (
	"slices"
	"testing"

	"inkwell/api"
	"inkwell/match"
	"inkwell/page"
	"inkwell/sheet"
)

func name(s string) api.Test { return api.Test{Kind: api.IsName, Name: s} }

func class(s string) api.Test { return api.Test{Kind: api.IsClass, Name: s} }

func id(s string) api.Test { return api.Test{Kind: api.IsID, Name: s} }

func has(s string) api.Test { return api.Test{Kind: api.HasAttr, Name: s} }

func is(s, val string) api.Test { return api.Test{Kind: api.IsAttr, Name: s, Val: val} }

func first() api.Test { return api.Test{Kind: api.IsFirst} }

func part(join int, tests ...api.Test) api.Part { return api.Part{Join: join, Tests: tests} }

// one is a selector of one part.
func one(tests ...api.Test) api.Selector { return api.Selector{part(api.Any, tests...)} }

// node is an element with attributes of these names and values, in turn.
func node(name string, parent int, attrs ...string) api.Node {
	n := api.Node{Name: name, Parent: parent}
	for i := 0; i+1 < len(attrs); i += 2 {
		n.Attrs = append(n.Attrs, api.Attr{Name: attrs[i], Val: attrs[i+1]})
	}
	return n
}

func readPage(t *testing.T, s string) []api.Node {
	t.Helper()
	l, f := page.Parse(s)
	if f != (api.Fault{}) {
		t.Fatalf("page %q has the fault %v", s, f)
	}
	return l
}

// readRule is a rule without declarations, of these selectors.
func readRule(t *testing.T, selectors string) api.Rule {
	t.Helper()
	l, f := sheet.Parse(selectors + "{}")
	if f != (api.Fault{}) || len(l) != 1 {
		t.Fatalf("selectors %q are %v %v", selectors, l, f)
	}
	return l[0]
}

func readSelector(t *testing.T, s string) api.Selector {
	t.Helper()
	r := readRule(t, s)
	if len(r.Selectors) != 1 {
		t.Fatalf("%q is %d selectors", s, len(r.Selectors))
	}
	return r.Selectors[0]
}

// wantMeant: which elements the selector means, of all numbers from well ahead of the list to well behind it.
func wantMeant(t *testing.T, l []api.Node, s api.Selector, want ...int) {
	t.Helper()
	var got []int
	for k := -3; k < len(l)+3; k++ {
		if match.Matches(l, k, s) {
			got = append(got, k)
		}
	}
	if !slices.Equal(got, want) {
		t.Errorf("%v means %v, not %v", s, got, want)
	}
}
