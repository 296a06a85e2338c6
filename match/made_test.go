package match_test

import (
	"math/rand/v2"
	"reflect"
	"slices"
	"strings"
	"testing"

	"inkwell/api"
	"inkwell/match"
	"inkwell/page"
)

// asks is C1 said another way: by what a test would look for in the words and pairs that an element has.
func asks(l []api.Node, k int, t api.Test) bool {
	vals := map[string]string{}
	for _, a := range slices.Backward(l[k].Attrs) {
		vals[a.Name] = a.Val
	}
	switch t.Kind {
	case api.IsName:
		return l[k].Name == t.Name
	case api.IsClass:
		return t.Name != "" && !strings.Contains(t.Name, " ") && strings.Contains(" "+vals["class"]+" ", " "+t.Name+" ")
	case api.IsID:
		t = is("id", t.Name)
	case api.IsFirst:
		return !slices.ContainsFunc(l[:k], func(n api.Node) bool { return n.Parent == l[k].Parent })
	}
	val, ok := vals[t.Name]
	return ok && (t.Kind == api.HasAttr || t.Kind == api.IsAttr && val == t.Val)
}

// meant is C2, word by word.
func meant(l []api.Node, k int, s api.Selector) bool {
	if k < 0 || k >= len(l) || len(s) == 0 {
		return false
	}
	last := s[len(s)-1]
	for _, t := range last.Tests {
		if !asks(l, k, t) {
			return false
		}
	}
	ahead := s[:len(s)-1]
	if len(ahead) == 0 {
		return true
	}
	switch last.Join {
	case api.Child:
		return meant(l, l[k].Parent, ahead)
	case api.Next:
		return meant(l, page.Ahead(l, k), ahead)
	case api.Below:
		for up := l[k].Parent; up >= 0 && up < k; k, up = up, l[up].Parent {
			if meant(l, up, ahead) {
				return true
			}
		}
	}
	return false
}

// best is C2's Best by sorting.
func best(l []api.Node, k int, r api.Rule) (api.Weight, bool) {
	all := []api.Weight{}
	for _, s := range r.Selectors {
		if meant(l, k, s) {
			all = append(all, match.Weigh(s))
		}
	}
	if len(all) == 0 {
		return api.Weight{}, false
	}
	return slices.MaxFunc(all, func(a, b api.Weight) int {
		const more = 1000 // than any of these weights has
		return (a[0]-b[0])*more*more + (a[1]-b[1])*more + a[2] - b[2]
	}), true
}

// maker makes lists and selectors that have much in common, so that many elements are meant.
type maker struct{ *rand.Rand }

func (m maker) pick(l ...string) string { return l[m.IntN(len(l))] }

// nodes is a list; one that no page gives, if it is odd.
func (m maker) nodes(odd bool) []api.Node {
	l := make([]api.Node, m.IntN(14))
	for k := range l {
		parent := m.IntN(k+1) - 1
		if m.IntN(3) > 0 {
			parent = k - 1
		}
		if odd && m.IntN(3) == 0 {
			parent = m.IntN(len(l)+6) - 3
		}
		l[k] = node(m.pick("p", "b"), parent)
		for _, i := range m.Perm(3)[:m.IntN(4)] {
			l[k].Attrs = append(l[k].Attrs, api.Attr{Name: []string{"class", "id", "x"}[i], Val: m.pick("", "a", "b", "a b", " b", "a  ", "ab")})
		}
		if odd && m.IntN(4) == 0 {
			l[k].Attrs = append(l[k].Attrs, api.Attr{Name: m.pick("class", "id", ""), Val: "a"})
		}
	}
	return l
}

func (m maker) test() api.Test {
	switch m.IntN(12) {
	case 0:
		return class(m.pick("a", "b", "", "a b"))
	case 1:
		return id(m.pick("a", "b", ""))
	case 2:
		return has(m.pick("class", "id", "x", ""))
	case 3:
		return is(m.pick("class", "x", "y"), m.pick("a", "b", ""))
	case 4, 5:
		return first()
	case 6:
		return api.Test{Kind: m.IntN(12) - 2, Name: m.pick("p", "x"), Val: "a"}
	}
	return name(m.pick("p", "b"))
}

func (m maker) selector() api.Selector {
	s := make(api.Selector, m.IntN(5))
	for i := range s {
		s[i].Join = 1 + m.IntN(3)
		if m.IntN(2) > 0 {
			s[i].Join = api.Below
		}
		if m.IntN(20) == 0 {
			s[i].Join = m.IntN(7) - 1
		}
		for range m.IntN(3) {
			s[i].Tests = append(s[i].Tests, m.test())
		}
	}
	return s
}

func (m maker) rule() api.Rule {
	r := api.Rule{Selectors: make([]api.Selector, m.IntN(5))}
	for i := range r.Selectors {
		r.Selectors[i] = m.selector()
	}
	return r
}

// C1, C2: made lists and selectors, held against the second reading.
func TestMadeSelectors(t *testing.T) {
	found := 0
	for i := range 40000 {
		m := maker{rand.New(rand.NewPCG(3, uint64(i)))}
		l, r := m.nodes(i%2 > 0), m.rule()
		for k := -1; k <= len(l); k++ {
			for _, s := range r.Selectors {
				got, want := match.Matches(l, k, s), meant(l, k, s)
				if got != want {
					t.Fatalf("Matches of %d and %v in %v is %v", k, s, l, got)
				}
				if got && len(s) > 1 {
					found++
				}
			}
			w, ok := match.Best(l, k, r)
			if want, is := best(l, k, r); w != want || ok != is {
				t.Fatalf("Best of %d and %v in %v is %v %v, not %v %v", k, r, l, w, ok, want, is)
			}
		}
	}
	if found < 10000 {
		t.Errorf("only %d times an element was meant by several parts", found)
	}
}

// C1, C2: one test more means no more, and weighs no less.
func TestOneTestMore(t *testing.T) {
	for i := range 5000 {
		m := maker{rand.New(rand.NewPCG(4, uint64(i)))}
		l, s := m.nodes(i%2 > 0), m.selector()
		if len(s) == 0 {
			continue
		}
		more := slices.Clone(s)
		at := m.IntN(len(s))
		more[at].Tests = append(slices.Clone(more[at].Tests), m.test())
		for k := range l {
			if match.Matches(l, k, more) && !match.Matches(l, k, s) {
				t.Errorf("%v means %d in %v, but %v does not", more, k, l, s)
			}
		}
		a, b := match.Weigh(s), match.Weigh(more)
		if slices.Compare(a[:], b[:]) > 0 {
			t.Errorf("%v weighs %v, but %v %v", s, a, more, b)
		}
	}
}

// Z2: what is handed in is only read, and so is the room behind it.
func TestOnlyRead(t *testing.T) {
	for i := range 2000 {
		seed := uint64(i)
		made := func() ([]api.Node, api.Rule) {
			m := maker{rand.New(rand.NewPCG(5, seed))}
			return m.nodes(true), m.rule()
		}
		l, r := made()
		same, sameRule := made()
		for k := -1; k <= len(l); k++ {
			match.Best(l[:len(l)/2], k, r)
			for _, s := range r.Selectors {
				match.Matches(l[:len(l)/2], k, s[:len(s)/2])
				match.Weigh(s[:len(s)/2])
			}
		}
		if !reflect.DeepEqual(l, same) || !reflect.DeepEqual(r, sameRule) {
			t.Fatalf("%v and %v became %v and %v", same, sameRule, l, r)
		}
	}
}

// chain is n elements, each in the one ahead of it.
func chain(n int) []api.Node {
	l := make([]api.Node, n)
	for k := range l {
		l[k] = node("p", k-1)
	}
	return l
}

// Z1: every call ends, even where there are more ways up than could be gone one by one.
func TestManyWaysUp(t *testing.T) {
	const n = 2000
	l := chain(n)
	for _, parts := range []int{2, 6, 50, n / 2} {
		s := slices.Repeat(api.Selector{part(api.Below, name("p"))}, parts)
		if !match.Matches(l, n-1, s) || !match.Matches(l, parts-1, s) || match.Matches(l, parts-2, s) {
			t.Errorf("%d parts, one below the other", parts)
		}
		s[0] = part(api.Any, name("b"))
		if match.Matches(l, n-1, s) {
			t.Errorf("%d parts, the first one of no element", parts)
		}
		s[0] = part(api.Any, name("p"), first())
		s[parts/2] = part(api.Child)
		if !match.Matches(l, n-1, s) {
			t.Errorf("%d parts, one of them a child", parts)
		}
	}
}

// Z1: every call ends, even where parents, or parts, are as deep as they may be.
func TestVeryDeep(t *testing.T) {
	const n = 1 << 16
	l := chain(n)
	if !match.Matches(l, n-1, slices.Repeat(api.Selector{part(api.Child)}, n)) {
		t.Error("as many parts as elements")
	}
	if match.Matches(l, n-1, slices.Repeat(api.Selector{part(api.Child)}, n+1)) {
		t.Error("one part more than there are elements")
	}
	l[0].Name = "b"
	if !match.Matches(l, n-1, api.Selector{part(api.Any, name("b")), part(api.Below), part(api.Below), part(api.Below)}) {
		t.Error("the first element is above")
	}
	round := []api.Node{node("p", 0)}
	if !match.Matches(round, 0, slices.Repeat(api.Selector{part(api.Child)}, 1<<20)) {
		t.Error("an element that is its own parent")
	}
}
