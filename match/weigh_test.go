package match_test

import (
	"math"
	"slices"
	"testing"

	"inkwell/api"
	"inkwell/match"
)

// C2: what selectors weigh.
func TestWeigh(t *testing.T) {
	for _, c := range []struct {
		s    string
		want api.Weight
	}{
		{"*", api.Weight{}}, {"p", api.Weight{0, 0, 1}}, {".a", api.Weight{0, 1, 0}}, {"#a", api.Weight{1, 0, 0}},
		{"[a]", api.Weight{0, 1, 0}}, {"[a=b]", api.Weight{0, 1, 0}}, {":first", api.Weight{0, 1, 0}},
		{".b #q", api.Weight{1, 1, 0}}, {"p.a#b:first[c][d=e]", api.Weight{1, 4, 1}}, {"* > * + * *", api.Weight{}},
		{"p b + i > u", api.Weight{0, 0, 4}}, {"#a#a #a", api.Weight{3, 0, 0}}, {"p.a > b.a", api.Weight{0, 2, 2}},
	} {
		if got := match.Weigh(readSelector(t, c.s)); got != c.want {
			t.Errorf("%q weighs %v, not %v", c.s, got, c.want)
		}
	}
}

// C2: kinds that are none weigh nothing; joins, and whether there are such elements, are not asked for.
func TestWeighOfAnySelector(t *testing.T) {
	for _, kind := range []int{math.MinInt, -1, 0, 7, math.MaxInt} {
		s := one(api.Test{Kind: kind, Name: "p"}, name("p"), api.Test{Kind: kind})
		if got := match.Weigh(s); got != (api.Weight{0, 0, 1}) {
			t.Errorf("%v weighs %v", s, got)
		}
		s = api.Selector{part(kind, id("")), part(kind, class("")), part(kind)}
		if got := match.Weigh(s); got != (api.Weight{1, 1, 0}) {
			t.Errorf("%v weighs %v", s, got)
		}
	}
	long := slices.Repeat(one(slices.Repeat([]api.Test{id("a"), name("b"), first(), name("")}, 100)...), 100)
	if got := match.Weigh(long); got != (api.Weight{10000, 10000, 20000}) {
		t.Errorf("a long selector weighs %v", got)
	}
}

func wantBest(t *testing.T, l []api.Node, k int, r api.Rule, want api.Weight, ok bool) {
	t.Helper()
	if got, found := match.Best(l, k, r); got != want || found != ok {
		t.Errorf("Best of %d and %v is %v %v, not %v %v", k, r.Selectors, got, found, want, ok)
	}
}

// C2: the greatest weight of those that mean the element, wherever it stands in the rule.
func TestBest(t *testing.T) {
	l := readPage(t, `<p class="a b" id="q" x="y"><b></b></p><i></i>`)
	for _, c := range []struct {
		s    string
		want api.Weight
		ok   bool
	}{
		{"p", api.Weight{0, 0, 1}, true}, {"b", api.Weight{}, false}, {"#z, b, .c, p > p", api.Weight{}, false},
		{"*", api.Weight{}, true}, {"b, *, #z", api.Weight{}, true}, {"*, p", api.Weight{0, 0, 1}, true}, {"p, *", api.Weight{0, 0, 1}, true},
		{"p, .a", api.Weight{0, 1, 0}, true}, {".a, p", api.Weight{0, 1, 0}, true}, {".a, p, #z", api.Weight{0, 1, 0}, true},
		{"#q, p.a.b[x]:first", api.Weight{1, 0, 0}, true}, {"p.a.b[x]:first, #q", api.Weight{1, 0, 0}, true},
		{"p.a, .a.b", api.Weight{0, 2, 0}, true}, {".a.b, p.a", api.Weight{0, 2, 0}, true},
		{"#q.a, p#q", api.Weight{1, 1, 0}, true}, {"p#q, #q.a", api.Weight{1, 1, 0}, true},
		{"#q, #q.a", api.Weight{1, 1, 0}, true}, {"#q.a, #q", api.Weight{1, 1, 0}, true}, // the second number alone
		{"#q.a, p#q.a", api.Weight{1, 1, 1}, true}, {"p#q.a, #q.a", api.Weight{1, 1, 1}, true}, // the third number alone
		{".a, .b", api.Weight{0, 1, 0}, true}, {".a, .a, [x], :first", api.Weight{0, 1, 0}, true}, // equal ones
	} {
		wantBest(t, l, 0, readRule(t, c.s), c.want, c.ok)
	}
	wantBest(t, l, 1, readRule(t, "p b, b, #q i"), api.Weight{0, 0, 2}, true)
	wantBest(t, l, 2, readRule(t, "p b, i, p + i, #q"), api.Weight{0, 0, 2}, true)
}

// C2: a rule without selectors, or with such as mean nothing; its other fields are not asked for.
func TestBestOfAnyRule(t *testing.T) {
	l := readPage(t, "<p></p>")
	some := []api.Selector{one(name("p"))}
	for _, none := range [][]api.Selector{nil, {}, some[:0], {nil}, {{}}, {nil, one(name("b")), {}}} {
		wantBest(t, l, 0, api.Rule{Selectors: none}, api.Weight{}, false)
	}
	wantBest(t, l, 0, api.Rule{Media: "wide", Selectors: some, At: api.Span{From: 9, To: -9}}, api.Weight{0, 0, 1}, true)
	wantBest(t, l, 0, api.Rule{Selectors: []api.Selector{one(api.Test{Kind: 9}), {{}}}}, api.Weight{}, true)
}
