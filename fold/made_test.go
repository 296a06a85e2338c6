package fold_test

import (
	"math/rand/v2"
	"slices"
	"strings"
	"testing"

	"inkwell/api"
	"inkwell/cascade"
	"inkwell/fold"
	"inkwell/match"
	"inkwell/page"
	"inkwell/props"
	"inkwell/sheet"
)

// readAgain is F1, word by word.
func readAgain(s string) ([]api.Node, []api.Rule, api.Fault) {
	l, f := page.Parse(s)
	if f.Err != api.OK {
		return nil, nil, f
	}
	var rules []api.Rule
	for _, n := range l {
		some, f := sheet.Parse(s[n.Inner.From:n.Inner.To])
		if f.Err != api.OK {
			f.At += n.Inner.From
			return nil, nil, f
		}
		for _, r := range some {
			r.At.From, r.At.To = r.At.From+n.Inner.From, r.At.To+n.Inner.From
			rules = append(rules, r)
		}
	}
	if len(rules) > api.MaxRules {
		return nil, nil, api.Fault{Err: api.ErrMany}
	}
	for _, r := range rules {
		if _, err := props.All(r.Decls); err != api.OK {
			return nil, nil, api.Fault{Err: err, At: r.At.From}
		}
	}
	for _, n := range l {
		for _, a := range n.Attrs {
			if a.Name != "style" {
				continue
			}
			own, f := sheet.Decls(a.Val)
			if _, err := props.All(own); f.Err == api.OK {
				f.Err = err
			}
			if f.Err != api.OK {
				return nil, nil, api.Fault{Err: f.Err, At: a.At.From}
			}
		}
	}
	return l, rules, api.Fault{}
}

// meet is F2's word, of two rules.
func meet(l []api.Node, a, b api.Rule) bool {
	element, property := false, false
	for k := range l {
		_, byA := match.Best(l, k, a)
		_, byB := match.Best(l, k, b)
		element = element || byA && byB
	}
	ofA, _ := props.All(a.Decls)
	ofB, _ := props.All(b.Decls)
	for _, d := range ofA {
		for _, e := range ofB {
			property = property || d.Name == e.Name
		}
	}
	return element && property
}

// staysAgain is F2 by going round until nothing more must stay.
func staysAgain(l []api.Node, rules []api.Rule) []bool {
	stays := make([]bool, len(rules))
	for more := true; more; {
		more = false
		for i, r := range rules {
			must := r.Media != ""
			for j, other := range rules {
				must = must || stays[j] && meet(l, r, other)
			}
			more = more || must && !stays[i]
			stays[i] = stays[i] || must
		}
	}
	return stays
}

// foldAgain is F3, byte by byte: of each whether it is gone, and what comes in ahead of it.
func foldAgain(s string) (string, api.Fault) {
	l, rules, f := readAgain(s)
	if f.Err != api.OK {
		return "", f
	}
	var goes []api.Rule
	in, gone := make([]string, len(s)+1), make([]bool, len(s)+1)
	put := func(from, to int, text string) {
		in[from] = text
		for i := from; i < to; i++ {
			gone[i] = true
		}
	}
	for i, stays := range staysAgain(l, rules) {
		if !stays {
			goes = append(goes, rules[i])
			put(rules[i].At.From, rules[i].At.To, " ")
		}
	}
	for k, n := range l {
		look, _ := cascade.Declared(l, k, goes, nil)
		var decls []api.Decl
		for _, w := range look {
			decls = append(decls, api.Decl{Name: w.Name, Val: w.Val, Strong: w.Strong})
		}
		style := sheet.Print(decls)
		old, has := page.Get(n, "style")
		if len(look) > api.MaxDecls || style != "" && !has && len(n.Attrs) == api.MaxAttrs {
			return "", api.Fault{Err: api.ErrMany, At: n.NameEnd}
		}
		text := ""
		if style != "" {
			text = ` style="` + style + `"`
		}
		if !has {
			put(n.NameEnd, n.NameEnd, text)
		}
		for _, a := range n.Attrs {
			if a.Name == "style" && style != old {
				put(a.At.From, a.At.To, text)
			}
		}
	}
	var b strings.Builder
	for i := range len(s) + 1 {
		b.WriteString(in[i])
		if i < len(s) && !gone[i] {
			b.WriteByte(s[i])
		}
	}
	if b.Len() > api.MaxPage {
		return "", api.Fault{Err: api.ErrMuch}
	}
	return b.String(), api.Fault{}
}

// maker makes pages whose rules have much in common, so that many of them meet.
type maker struct{ *rand.Rand }

func (m maker) pick(l ...string) string { return l[m.IntN(len(l))] }

func (m maker) decls() string {
	var b strings.Builder
	for range m.IntN(4) {
		b.WriteString(m.pick("color", "size", "width", "a", "b", "c", "edge-top") + m.pick(":", ": ", " :\n") + m.pick("1", "2", "3"))
		b.WriteString(m.pick("", "", "", "", " !important") + m.pick(";", "; "))
		if m.IntN(6) == 0 {
			b.WriteString("edge:" + m.pick("1", "2 3", "3 2 1", "1 2 3 4") + ";")
		}
		if m.IntN(150) == 0 {
			b.WriteString("edge:1 2 3 4 5;")
		}
	}
	return b.String()
}

func (m maker) rules(most int) string {
	var b strings.Builder
	for range m.IntN(most) {
		b.WriteString(m.pick("p", "b", "i", "u", ".a", "#q", "*", ":first", "p.a", "p b", "b > p, #q", "p + *", "i , u", "style"))
		b.WriteString(m.pick("", " ", "/* n */") + "{" + m.decls() + "}" + m.pick("", " ", "\n", "/* } */"))
	}
	return b.String()
}

func (m maker) sheet() string {
	s := m.pick("", " ") + m.rules(4)
	if m.IntN(3) == 0 {
		s += "@media " + m.pick("wide", "dark") + m.pick("{", " { ") + m.rules(3) + "}"
	}
	return s + m.rules(3)
}

// tag is a first tag without its `>`.
func (m maker) tag(name string) string {
	s := "<" + name
	if m.IntN(4) == 0 {
		s += ` class="` + m.pick("a", "b", "a b") + `"`
	}
	if m.IntN(4) == 0 {
		own := strings.ReplaceAll(m.decls(), "\n", " ")
		s += ` style="` + m.pick("", " ", own, own, strings.TrimSuffix(own, ";")) + `"`
	}
	if m.IntN(5) == 0 {
		s += ` id="` + m.pick("q", "r") + `"`
	}
	if m.IntN(60) == 0 {
		s += strings.Repeat(` style="oops"`, m.IntN(2)) + attrs(m.IntN(9))
	}
	return s
}

func (m maker) items(deep int) string {
	var b strings.Builder
	for range m.IntN(5) {
		switch name := m.pick("p", "b", "i"); m.IntN(6) {
		case 0:
			b.WriteString(m.tag("style") + ">" + m.sheet() + "</style>")
		case 1:
			b.WriteString(m.pick("x", " \n", "<!-- <p> -->"))
		default:
			b.WriteString(m.tag(name) + ">")
			if deep > 0 {
				b.WriteString(m.items(deep - 1))
			}
			b.WriteString("</" + name + ">")
		}
	}
	return b.String()
}

// page is a page; one with a byte that is wrong, if it is spoilt.
func (m maker) page(spoilt bool) string {
	s := m.items(3)
	if m.IntN(2) == 0 {
		s = st(m.sheet()) + s
	}
	if m.IntN(50) == 0 {
		s += strings.Repeat("x", max(0, api.MaxPage-len(s)-m.IntN(60)))
	}
	if spoilt && s != "" {
		at := m.IntN(len(s))
		s = s[:at] + m.pick("<", "}", "\xff", `"`, "", "x", "/*") + s[at+1:]
	}
	return s
}

func sameLists(l, want []api.Node, rules, wantRules []api.Rule) bool {
	return len(l) == len(want) && len(rules) == len(wantRules) && (len(l) == 0 || same(l, want)) && (len(rules) == 0 || same(rules, wantRules))
}

// F1 to F3: made pages, held against the second reading.
func TestMade(t *testing.T) {
	found := map[api.Errno]int{}
	counted := map[bool]int{}
	for i := range 12_000 {
		m := maker{rand.New(rand.NewPCG(8, uint64(i)))}
		s := m.page(i%5 == 0)
		l, rules, f := fold.Read(s)
		wantL, wantRules, wantF := readAgain(s)
		if f != wantF || !sameLists(l, wantL, rules, wantRules) {
			t.Fatalf("%q is read as %v, %v, %v, not %v, %v, %v", s, l, rules, f, wantL, wantRules, wantF)
		}
		stays := fold.Stays(l, rules)
		if want := staysAgain(l, rules); letters(stays) != letters(want) {
			t.Fatalf("of %q %v must stay, not %v", s, stays, want)
		}
		for j, r := range rules {
			if r.Media == "" {
				counted[stays[j]]++
			}
		}
		got, f := fold.Fold(s)
		if want, wantF := foldAgain(s); got != want || f != wantF {
			t.Fatalf("%q is folded to %q, %v, not %q, %v", s, got, f, want, wantF)
		}
		found[f.Err]++
	}
	for _, err := range []api.Errno{api.OK, api.ErrForm, api.ErrMany, api.ErrMuch} {
		if found[err] < 50 {
			t.Errorf("error %d came only %d times", err, found[err])
		}
	}
	if counted[true] < 1000 || counted[false] < 1000 {
		t.Errorf("of rules without media %v must stay", counted)
	}
}

// bare is the page without its sheets' texts and its attributes `style`.
func bare(s string, l []api.Node) string {
	var b strings.Builder
	done := 0
	cut := func(at api.Span) {
		b.WriteString(s[done:at.From])
		done = at.To
	}
	for _, n := range l {
		for _, a := range n.Attrs {
			if a.Name == "style" {
				cut(a.At)
			}
		}
		if n.Name == "style" {
			cut(n.Inner)
		}
	}
	return b.String() + s[done:]
}

// stayers is the rules that must stay, without their places.
func stayers(l []api.Node, rules []api.Rule) []api.Rule {
	var out []api.Rule
	for i, stays := range fold.Stays(l, rules) {
		if r := rules[i]; stays {
			r.At = api.Span{}
			out = append(out, r)
		}
	}
	return out
}

// F3: what comes of it, of made pages that are folded.
func TestWhatComes(t *testing.T) {
	told := 0
	for i := range 1500 {
		m := maker{rand.New(rand.NewPCG(9, uint64(i)))}
		s := m.page(false)
		out, f := fold.Fold(s)
		if f.Err != api.OK {
			continue
		}
		told++
		l, rules := read(t, s)
		now, left := read(t, out)
		if again, f := fold.Fold(out); again != out || f != (api.Fault{}) {
			t.Fatalf("%q, of %q, is folded again, to %q, %v", out, s, again, f)
		}
		if bare(s, l) != bare(out, now) {
			t.Fatalf("%q is folded to another page, %q", s, out)
		}
		if gone, want := stayers(now, left), stayers(l, rules); len(left) != len(want) || len(gone) != len(want) || len(want) > 0 && !same(gone, want) {
			t.Fatalf("of the rules of %q %v are left, not %v", s, left, want)
		}
		wantSameLook(t, s, out)
	}
	if told < 1000 {
		t.Errorf("only %d pages are folded", told)
	}
}

// wantSameLook: wherever any media are, each element's look is the same, and what it has of its parents; and where no rule is left own styles alone tell it.
func wantSameLook(t *testing.T, s, out string) {
	t.Helper()
	l, rules := read(t, s)
	now, left := read(t, out)
	for _, media := range [][]string{nil, {"wide"}, {"dark"}, {"dark", "wide"}} {
		for k := range l {
			was, _ := cascade.Declared(l, k, rules, media)
			is, err := cascade.Declared(now, k, left, media)
			if !slices.Equal(is, was) || err != api.OK {
				t.Fatalf("with %v element %d of %q looks %v, of %q %v", media, k, s, was, out, is)
			}
			if own, _ := cascade.Declared(now, k, nil, nil); len(left) == 0 && !slices.Equal(own, was) {
				t.Fatalf("element %d of %q looks %v, by the styles of %q %v", k, s, was, out, own)
			}
			color, _ := cascade.Value(l, k, rules, media, "color")
			if got, err := cascade.Value(now, k, left, media, "color"); got != color || err != api.OK {
				t.Fatalf("with %v the color of %d in %q is %q, in %q %q", media, k, s, color, out, got)
			}
		}
	}
}
