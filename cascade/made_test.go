package cascade_test

import (
	"cmp"
	"math/rand/v2"
	"slices"
	"strings"
	"testing"

	"inkwell/api"
	"inkwell/cascade"
	"inkwell/match"
	"inkwell/page"
	"inkwell/props"
	"inkwell/sheet"
)

// ranked is a declaration with all that tells whether it wins, as numbers: the greater one does, the first that differs.
type ranked struct {
	api.Won
	rank [6]int
}

func bit(b bool) int {
	if b {
		return 1
	}
	return 0
}

// allRanked is E1's claims, in the order of the chapter, or the first error.
func allRanked(l []api.Node, k int, rules []api.Rule, media []string) (all []ranked, err api.Errno) {
	add := func(decls []api.Decl, own bool, w api.Weight) api.Errno {
		some, err := props.All(decls)
		for _, d := range some {
			rank := [6]int{bit(d.Strong), bit(own), w[0], w[1], w[2], len(all)}
			all = append(all, ranked{api.Won{Name: d.Name, Val: d.Val, Strong: d.Strong}, rank})
		}
		return err
	}
	for _, r := range rules {
		counts := r.Media == ""
		for _, m := range media {
			counts = counts || m == r.Media
		}
		if w, ok := match.Best(l, k, r); counts && ok {
			if err := add(r.Decls, false, w); err != api.OK {
				return nil, err
			}
		}
	}
	if style, ok := page.Get(l[k], "style"); ok {
		own, f := sheet.Decls(style)
		if f.Err != api.OK {
			return nil, f.Err
		}
		if err := add(own, true, api.Weight{}); err != api.OK {
			return nil, err
		}
	}
	return all, api.OK
}

// declared is E1 by sorting all claims: of each name the last one is left.
func declared(l []api.Node, k int, rules []api.Rule, media []string) (api.Look, api.Errno) {
	if k < 0 || k >= len(l) {
		return nil, api.ErrNone
	}
	all, err := allRanked(l, k, rules, media)
	if err != api.OK {
		return nil, err
	}
	slices.SortFunc(all, func(a, b ranked) int {
		return cmp.Or(strings.Compare(a.Name, b.Name), slices.Compare(a.rank[:], b.rank[:]))
	})
	var look api.Look
	for i, c := range all {
		if i+1 == len(all) || all[i+1].Name != c.Name {
			look = append(look, c.Won)
		}
	}
	return look, api.OK
}

// value is E2, word by word.
func value(l []api.Node, k int, rules []api.Rule, media []string, name string) (string, api.Errno) {
	look, err := declared(l, k, rules, media)
	if err != api.OK {
		return "", err
	}
	for _, w := range look {
		if w.Name == name {
			return w.Val, api.OK
		}
	}
	if up := l[k].Parent; props.Inherits(name) && up >= 0 && up < k {
		return value(l, up, rules, media, name)
	}
	return props.Initial(name), api.OK
}

// maker makes pages and rules that have much in common, so that many claims meet.
type maker struct{ *rand.Rand }

func (m maker) pick(l ...string) string { return l[m.IntN(len(l))] }

func (m maker) decls() []api.Decl {
	var l []api.Decl
	for range m.IntN(4) {
		d := api.Decl{Name: m.pick("color", "size", "font", "width", "edge-top"), Val: m.pick("1", "2", "3"), Strong: m.IntN(5) == 0}
		if m.IntN(6) == 0 {
			d.Name, d.Val = "edge", m.pick("1", "2 3", "3 2 1", "1 2 3 4")
		}
		if m.IntN(90) == 0 {
			d.Name, d.Val = "edge", "1 2 3 4 5"
		}
		l = append(l, d)
	}
	return l
}

// nodes is a list; one that no page gives, if it is odd.
func (m maker) nodes(odd bool) []api.Node {
	l := make([]api.Node, m.IntN(7))
	for k := range l {
		l[k] = api.Node{Name: m.pick("p", "b"), Parent: m.IntN(k+1) - 1}
		if m.IntN(3) > 0 {
			l[k].Parent = k - 1
		}
		if odd && m.IntN(3) == 0 {
			l[k].Parent = m.IntN(len(l)+4) - 2
		}
		if m.IntN(2) == 0 {
			l[k].Attrs = append(l[k].Attrs, api.Attr{Name: m.pick("class", "id"), Val: m.pick("a", "q")})
		}
		if m.IntN(3) == 0 {
			l[k].Attrs = append(l[k].Attrs, api.Attr{Name: "style", Val: sheet.Print(m.decls())})
		}
		if m.IntN(60) == 0 {
			l[k].Attrs = append(l[k].Attrs, api.Attr{Name: "style", Val: "oops"})
		}
	}
	return l
}

func (m maker) rules(t *testing.T) []api.Rule {
	var rules []api.Rule
	for range m.IntN(8) {
		s := m.pick("p", "b", "*", ".a", "#q", ":first", "p.a", "p b", "b > p, #q", "p + *", ".a, b, *", "#a,p")
		r := readRules(t, s+"{}")[0]
		r.Media, r.Decls = m.pick("", "", "wide", "dark"), m.decls()
		rules = append(rules, r)
	}
	return rules
}

func (m maker) media() []string {
	return [][]string{nil, {"wide"}, {"dark", "wide"}, {"dark", "dark"}, {"", "no"}}[m.IntN(5)]
}

// E1, E2: made lists and rules, held against the second reading.
func TestMade(t *testing.T) {
	found := map[api.Errno]int{}
	for i := range 20_000 {
		m := maker{rand.New(rand.NewPCG(5, uint64(i)))}
		l, rules, media := m.nodes(i%2 > 0), m.rules(t), m.media()
		for k := -1; k <= len(l); k++ {
			got, err := cascade.Declared(l, k, rules, media)
			if want, wantErr := declared(l, k, rules, media); !sameLook(got, want) || err != wantErr {
				t.Fatalf("of %d, %v, %v and %v %v, %d is declared, not %v, %d", k, l, rules, media, got, err, want, wantErr)
			}
			found[err]++
			for _, name := range []string{"color", "size", "width", "edge-top", "edge"} {
				got, err := cascade.Value(l, k, rules, media, name)
				if want, wantErr := value(l, k, rules, media, name); got != want || err != wantErr {
					t.Fatalf("of %d, %v, %v and %v %s is %q, %d, not %q, %d", k, l, rules, media, name, got, err, want, wantErr)
				}
			}
		}
	}
	for _, err := range []api.Errno{api.OK, api.ErrForm, api.ErrMany, api.ErrNone} {
		if found[err] < 200 {
			t.Errorf("error %d came only %d times", err, found[err])
		}
	}
}

// E1: who is strong wins: one more strong rule, ahead of all others and without weight, loses to strong claims alone.
func TestStrongWins(t *testing.T) {
	for i := range 3000 {
		m := maker{rand.New(rand.NewPCG(6, uint64(i)))}
		l, rules := m.nodes(i%2 > 0), m.rules(t)
		more := append(readRules(t, "*{color:s !important}"), rules...)
		for k := range l {
			want, err := cascade.Declared(l, k, rules, nil)
			if err == api.OK {
				at, ok := slices.BinarySearchFunc(want, "color", func(w api.Won, name string) int { return strings.Compare(w.Name, name) })
				if !ok {
					want = slices.Insert(want, at, api.Won{Name: "color"})
				}
				if !want[at].Strong {
					want[at].Val, want[at].Strong = "s", true
				}
			}
			if got, gotErr := cascade.Declared(l, k, more, nil); gotErr != err || !sameLook(got, want) {
				t.Fatalf("of %d, %v and %v %v, %d is declared, not %v", k, l, more, got, gotErr, want)
			}
		}
	}
}

// E2: from parent to child: of what is not declared a child has what its parent has, if that is inherited, or else what nobody has.
func TestParentToChild(t *testing.T) {
	for i := range 3000 {
		m := maker{rand.New(rand.NewPCG(7, uint64(i)))}
		l, rules, media := m.nodes(false), m.rules(t), m.media()
		l = append(l, api.Node{Name: "none", Parent: len(l) - 1})
		k := len(l) - 1
		look, err := cascade.Declared(l, k, rules, media)
		if err != api.OK {
			continue
		}
		for _, name := range []string{"color", "size", "font", "width", "edge-left"} {
			if slices.ContainsFunc(look, func(w api.Won) bool { return w.Name == name }) {
				continue
			}
			want, wantErr := props.Initial(name), api.OK
			if props.Inherits(name) && k > 0 {
				want, wantErr = cascade.Value(l, k-1, rules, media, name)
			}
			if got, err := cascade.Value(l, k, rules, media, name); got != want || err != wantErr {
				t.Fatalf("of %v and %v %s of the last one is %q, %d, not %q, %d", l, rules, name, got, err, want, wantErr)
			}
		}
	}
}
