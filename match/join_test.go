package match_test

import (
	"math"
	"slices"
	"testing"

	"inkwell/api"
	"inkwell/match"
)

const somePage = `<p class="a" id="q"><b class="a">x</b><i lang="en"><b><u></u></b><i></i></i><b></b></p><p><i></i></p>`

// C2: selectors, as sheets have them.
func TestSelectors(t *testing.T) {
	l := readPage(t, somePage)
	// 0 p: 1 b, 2 i: (3 b: 4 u), 5 i; 6 b. 7 p: 8 i.
	for _, c := range []struct {
		s    string
		want []int
	}{
		{"p", []int{0, 7}}, {"b", []int{1, 3, 6}}, {".a", []int{0, 1}}, {"zz", nil},
		{"p b", []int{1, 3, 6}}, {"p > b", []int{1, 6}}, {"p > i", []int{2, 8}}, {"p i", []int{2, 5, 8}}, {"i i", []int{5}},
		{"p u", []int{4}}, {"p > u", nil}, {"p > i u", []int{4}}, {"p i > u", nil}, {"p > i > b > u", []int{4}},
		{"p > * > * > *", []int{4}}, {"* *", []int{1, 2, 3, 4, 5, 6, 8}}, {"* * * *", []int{4}}, {"* * * * *", nil},
		{"b + i", []int{2, 5}}, {"i + b", []int{6}}, {"b + b", nil}, {"b + i + b", []int{6}}, {"p + p", []int{7}}, {"u + i", nil},
		{"p + p i", []int{8}}, {"b + i u", []int{4}}, {".a + i > b + i", []int{5}}, {"#q i + b", []int{6}}, {"p + p b", nil},
		{":first", []int{0, 1, 3, 4, 8}}, {"p :first", []int{1, 3, 4, 8}}, {"p:first > :first", []int{1}}, {":first + *", []int{2, 5, 7}},
		{".a .a", []int{1}}, {"#q > [lang=en] *", []int{3, 4, 5}}, {"[class] [lang]", []int{2}},
	} {
		wantMeant(t, l, readSelector(t, c.s), c.want...)
	}
}

// C2: where the nearest element that a part means does not stand where the part ahead asks, one further up may.
func TestBelowLooksFurther(t *testing.T) {
	l := readPage(t, `<a><b><c><b><d></d></b></c></b></a><e></e><b><c><b><d></d></b></c></b>`)
	wantMeant(t, l, readSelector(t, "a > b d"), 4)
	wantMeant(t, l, readSelector(t, "c > b d"), 4, 9)
	wantMeant(t, l, readSelector(t, "e + b d"), 9)
	wantMeant(t, l, readSelector(t, "b b d"), 4, 9)
	wantMeant(t, l, readSelector(t, "b b b d"))
}

// C2: what the one ahead is Below, or ahead of, counts too; but the one ahead of that is not the one ahead.
func TestNext(t *testing.T) {
	l := readPage(t, "<a></a><b></b><c><d></d><e></e></c>")
	wantMeant(t, l, readSelector(t, "b + c"), 2)
	wantMeant(t, l, readSelector(t, "a + c"))
	wantMeant(t, l, readSelector(t, "a + b + c e"), 4)
	wantMeant(t, l, readSelector(t, "c > d + e"), 4)
	wantMeant(t, l, readSelector(t, "b + d"))
	wantMeant(t, l, readSelector(t, "c + d"))
}

// C2: there is no such element; nothing behind a list's end is looked at (Z2).
func TestNoElement(t *testing.T) {
	l := []api.Node{node("p", -1), node("b", 3), node("b", 0), node("p", -1)}
	for _, k := range []int{math.MinInt, -2, -1, 4, 5, math.MaxInt} {
		if match.Matches(l, k, api.Selector{{}}) {
			t.Errorf("element %d is meant", k)
		}
		if w, ok := match.Best(l, k, api.Rule{Selectors: []api.Selector{{{}}, one(name("p"))}}); w != (api.Weight{}) || ok {
			t.Errorf("Best of element %d is %v %v", k, w, ok)
		}
	}
	for _, none := range [][]api.Node{nil, {}, l[:0]} {
		wantMeant(t, none, api.Selector{{}})
	}
	wantMeant(t, l[:3], one(name("p")), 0)
	child := api.Selector{part(api.Any, name("p")), part(api.Child, name("b"))}
	wantMeant(t, l, child, 1, 2)
	wantMeant(t, l[:3], child, 2)
}

// C2: a selector without a part means nothing.
func TestNoPart(t *testing.T) {
	l := readPage(t, somePage)
	some := readSelector(t, "p b")
	for _, s := range []api.Selector{nil, {}, some[:0]} {
		wantMeant(t, l, s)
		if w := match.Weigh(s); w != (api.Weight{}) {
			t.Errorf("no part weighs %v", w)
		}
	}
	wantMeant(t, l, some[:1], 0, 7)
}

// C2: the first part's Join is not asked for, whatever it is; another Join leads nowhere.
func TestJoins(t *testing.T) {
	l := readPage(t, "<a></a><b><c></c></b>")
	for _, join := range []int{math.MinInt, -1, api.Any, api.Below, api.Child, api.Next, 4, math.MaxInt} {
		wantMeant(t, l, api.Selector{part(join, name("a"))}, 0)
		wantMeant(t, l, api.Selector{part(join, name("b")), part(api.Child)}, 2)
		wantMeant(t, l, api.Selector{part(join, name("a")), part(api.Next)}, 1)
		if slices.Contains([]int{api.Below, api.Child, api.Next}, join) {
			continue
		}
		wantMeant(t, l, api.Selector{{}, part(join)})
		wantMeant(t, l, api.Selector{{}, part(join), part(api.Below)})
		wantMeant(t, l, api.Selector{{}, part(api.Below), part(join)})
	}
}

// C2: lists that no page gives: Child is number Parent, whatever number that is, if there is such an element.
func TestChildOfAnyList(t *testing.T) {
	l := []api.Node{node("p", 0), node("b", 7), node("b", -5), node("i", 4), node("u", 3), node("b", math.MaxInt), node("b", math.MinInt), node("b", 8)}
	wantMeant(t, l, api.Selector{{}, part(api.Child)}, 0, 1, 3, 4)
	wantMeant(t, l, api.Selector{part(api.Any, name("p")), part(api.Child)}, 0)
	wantMeant(t, l, api.Selector{part(api.Any, name("u")), part(api.Child)}, 3)
	wantMeant(t, l, api.Selector{part(api.Any, name("b")), part(api.Child)}, 1)
	around := slices.Repeat(api.Selector{part(api.Child)}, 1001)
	wantMeant(t, l, around, 0, 3, 4)
	around[0] = part(api.Any, name("u"))
	wantMeant(t, l, around, 4)
	wantMeant(t, l, around[:1000], 3)
}

// C2: Below goes on as long as numbers go down, and are not below 0.
func TestBelowOfAnyList(t *testing.T) {
	l := []api.Node{
		node("p", 0), node("b", 0), node("i", 4), node("u", 2), node("s", 3),
		node("a", 9), node("c", 5), node("d", -5), node("e", 7), node("f", math.MaxInt), node("g", math.MinInt), node("h", 11), node("j", 10),
	}
	below := func(s string) api.Selector {
		return api.Selector{part(api.Any, name(s)), part(api.Below)}
	}
	wantMeant(t, l, below("p"), 1)    // not itself, though it is its own parent
	wantMeant(t, l, below("i"), 3, 4) // 4, 3, 2, and not 4 again
	wantMeant(t, l, below("u"), 4)
	wantMeant(t, l, below("s")) // from 2 to 4 is not down
	wantMeant(t, l, below("a"), 6)
	wantMeant(t, l, below("f")) // from 5 to 9 is not down
	wantMeant(t, l, below("d"), 8)
	wantMeant(t, l, below("h"))
	wantMeant(t, l, below("g"), 12)
	wantMeant(t, l, api.Selector{{}, part(api.Below)}, 1, 3, 4, 6, 8, 12)
	wantMeant(t, l, api.Selector{{}, part(api.Below), part(api.Below)}, 4)
	wantMeant(t, l, api.Selector{part(api.Any, name("s")), part(api.Child), part(api.Below)}, 3, 4)
}

// C2: the one ahead has the same Parent, even if no element is of that number.
func TestNextOfAnyList(t *testing.T) {
	l := []api.Node{node("a", 7), node("b", -5), node("c", 7), node("d", -1), node("e", -5), node("f", 5)}
	wantMeant(t, l, api.Selector{{}, part(api.Next)}, 2, 4)
	wantMeant(t, l, api.Selector{part(api.Any, name("a")), part(api.Next)}, 2)
	wantMeant(t, l, api.Selector{part(api.Any, name("b")), part(api.Next)}, 4)
}
