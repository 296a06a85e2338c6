package page_test

import (
	"math"
	"testing"

	"inkwell/api"
	"inkwell/page"
)

// A3: the first attribute of a name.
func TestGet(t *testing.T) {
	n := api.Node{Name: "p", Attrs: []api.Attr{
		{Name: "class", Val: "a b"}, {Name: "id", Val: ""}, {Name: "class", Val: "c"}, {Name: "x", Val: "p"},
	}}
	for _, c := range []struct {
		name, val string
		ok        bool
	}{
		{"class", "a b", true}, {"id", "", true}, {"x", "p", true},
		{"", "", false}, {"p", "", false}, {"clas", "", false}, {"classs", "", false}, {"Class", "", false}, {"a b", "", false},
	} {
		if v, ok := page.Get(n, c.name); v != c.val || ok != c.ok {
			t.Errorf("Get of %q is %q %v, not %q %v", c.name, v, ok, c.val, c.ok)
		}
	}
	for _, l := range [][]api.Attr{nil, {}, n.Attrs[:0]} {
		if v, ok := page.Get(api.Node{Name: "class", Attrs: l}, "class"); v != "" || ok {
			t.Errorf("Get of no attributes is %q %v", v, ok)
		}
	}
}

// A3: the last element ahead that has the same Parent.
func TestAhead(t *testing.T) {
	l, _ := page.Parse("<p>x<b>y</b><i><u></u>z</i><b></b></p><p><b></b></p><style></style>")
	want := []int{-1, -1, 1, -1, 2, 0, -1, 5}
	if len(l) != len(want) {
		t.Fatalf("%d elements", len(l))
	}
	for k := range l {
		if got := page.Ahead(l, k); got != want[k] {
			t.Errorf("Ahead of %d is %d, not %d", k, got, want[k])
		}
	}
}

// A3: no element k; nothing behind a list's end is looked at (Z2).
func TestAheadOfNone(t *testing.T) {
	l := make([]api.Node, 4)
	for _, k := range []int{-1, 4, 5, math.MinInt, math.MaxInt} {
		if got := page.Ahead(l, k); got != -1 {
			t.Errorf("Ahead of %d is %d", k, got)
		}
	}
	for _, l := range [][]api.Node{nil, {}, l[:0]} {
		for k := -1; k < 2; k++ {
			if got := page.Ahead(l, k); got != -1 {
				t.Errorf("Ahead of %d of none is %d", k, got)
			}
		}
	}
	if got := page.Ahead(l[:2], 2); got != -1 {
		t.Errorf("Ahead looks behind the list: %d", got)
	}
}

// A3: lists that no page has: Parents are only held against each other.
func TestAheadOfAnyList(t *testing.T) {
	l := []api.Node{{Parent: 7}, {Parent: -5}, {Parent: 7}, {Parent: 3}, {Parent: -1}, {Parent: -5}, {Parent: 3}}
	for k, want := range []int{-1, -1, 0, -1, -1, 1, 3} {
		if got := page.Ahead(l, k); got != want {
			t.Errorf("Ahead of %d is %d, not %d", k, got, want)
		}
	}
}

// Z2: each answer, and each of its lists, is memory of its own, its spare room too.
func TestAnswersAreTheCallers(t *testing.T) {
	const s = `<p a="1" b="2"><b c="3"></b></p><i d="4"></i>`
	l, _ := page.Parse(s)
	for i := range l {
		room := l[i].Attrs[:cap(l[i].Attrs)]
		for j := range room {
			room[j] = api.Attr{Name: "spoilt", At: api.Span{From: i, To: i}}
		}
		for k := range l {
			for _, a := range l[k].Attrs {
				if (a.Name == "spoilt") != (k <= i) || k < i && a.At.From != k {
					t.Errorf("attributes of %d share memory with those of %d", i, k)
				}
			}
		}
	}
	clear(l[:cap(l)])
	wantNodes(t, s,
		with(element("p", -1, 2), attr("a", "1", 2, 8), attr("b", "2", 8, 14)),
		with(element("b", 0, 17), attr("c", "3", 17, 23)),
		with(element("i", -1, 34), attr("d", "4", 34, 40)))
}

// Z2: what is handed in is only read.
func TestNodesAreOnlyRead(t *testing.T) {
	const s = `<p a="1" b="2"></p><p a="3"></p>`
	l, _ := page.Parse(s)
	same, _ := page.Parse(s)
	for k := -1; k <= len(l); k++ {
		page.Ahead(l, k)
	}
	for _, n := range l {
		page.Get(n, "b")
	}
	if !sameNodes(l, same) {
		t.Errorf("%v, not %v", l, same)
	}
}
