package sheet_test

import (
	"math/rand/v2"
	"strings"
	"testing"

	"inkwell/api"
	"inkwell/sheet"
)

// maker writes a sheet, and beside it the rules that it has.
type maker struct {
	*rand.Rand
	text  strings.Builder
	rules []api.Rule
}

func (m *maker) pick(l ...string) string { return l[m.IntN(len(l))] }

func (m *maker) write(l ...string) {
	for _, s := range l {
		m.text.WriteString(s)
	}
}

// some is a number up to most, mostly a small one, but often most itself.
func (m *maker) some(most int) int {
	if m.IntN(12) == 0 {
		return most
	}
	return 1 + m.IntN(min(3, most))
}

func (m *maker) gaps() string { return m.pick("", "", "", " ", "\n", "/**/") + m.someGap(3) }

func (m *maker) someGap(one int) string {
	if m.IntN(one) > 0 {
		return ""
	}
	return m.pick(" ", "  ", "\n", "/* x{} */", " /*,\xff*/ ", "/*/*/")
}

func (m *maker) name() string {
	return m.pick("p", "b", "div", "a-1", "first", "media", "n-", longest)
}

func (m *maker) sheet() {
	m.write(m.gaps())
	for range m.IntN(5) {
		if m.IntN(3) > 0 {
			m.rule("")
			m.write(m.gaps())
			continue
		}
		media := m.name()
		m.write("@media", m.someGap(1), media, m.gaps(), "{", m.gaps())
		for range m.IntN(4) {
			m.rule(media)
			m.write(m.gaps())
		}
		m.write("}", m.gaps())
	}
}

func (m *maker) rule(media string) {
	r := api.Rule{Media: media}
	r.At.From = m.text.Len()
	for i := range m.some(api.MaxSelectors) {
		if i > 0 {
			m.write(",", m.gaps())
		}
		r.Selectors = append(r.Selectors, m.selector())
	}
	m.write("{")
	r.Decls = m.decls()
	m.write("}")
	r.At.To = m.text.Len()
	m.rules = append(m.rules, r)
}

func (m *maker) selector() api.Selector {
	l := api.Selector{m.part(api.Any)}
	for range m.some(api.MaxParts) - 1 {
		join := 1 + m.IntN(3)
		switch join {
		case api.Below:
			m.write(m.someGap(1))
		case api.Child:
			m.write(m.gaps(), ">", m.gaps())
		case api.Next:
			m.write(m.gaps(), "+", m.gaps())
		}
		l = append(l, m.part(join))
	}
	m.write(m.gaps())
	return l
}

func (m *maker) part(join int) api.Part {
	p := api.Part{Join: join}
	most := m.some(api.MaxTests)
	switch m.IntN(3) {
	case 0:
		m.write("*")
		most--
	case 1:
		p.Tests = append(p.Tests, name(m.name()))
		m.write(p.Tests[0].Name)
	}
	for len(p.Tests) < most {
		x := api.Test{Kind: 2 + m.IntN(5)}
		if x.Kind != api.IsFirst {
			x.Name = m.name()
		}
		switch x.Kind {
		case api.IsClass:
			m.write(".", x.Name)
		case api.IsID:
			m.write("#", x.Name)
		case api.IsFirst:
			m.write(":first")
		case api.HasAttr:
			m.write("[", x.Name, "]")
		case api.IsAttr:
			x.Val = m.name()
			m.write("[", x.Name, "=", x.Val, "]")
		}
		p.Tests = append(p.Tests, x)
	}
	return p
}

func (m *maker) decls() []api.Decl {
	var l []api.Decl
	m.write(m.gaps())
	n := m.some(api.MaxDecls) - m.IntN(2)
	for i := range n {
		d := api.Decl{Name: m.name(), Strong: m.IntN(4) == 0}
		m.write(d.Name, m.gaps(), ":", m.gaps())
		d.Val = m.value()
		if d.Strong {
			m.write("!important", m.gaps())
		}
		if i < n-1 || m.IntN(2) == 0 {
			m.write(";", m.gaps())
		}
		l = append(l, d)
	}
	return l
}

func (m *maker) value() string {
	val := m.pick("red", "12", "#fff", "1.5%", "-", "important")
	m.write(val)
	for range m.IntN(3) {
		word := m.pick("a", "0", "blue-2")
		m.write(m.someGap(1), word)
		val += " " + word
	}
	if m.IntN(12) == 0 {
		word := strings.Repeat("w", api.MaxVal-len(val)-1)
		m.write(" ", word)
		val += " " + word
	}
	m.write(m.gaps())
	return val
}

// made is sheets that have no fault, always the same ones.
func made(n int) []*maker {
	var out []*maker
	for i := 0; len(out) < n; i++ {
		m := &maker{Rand: rand.New(rand.NewPCG(11, uint64(i)))}
		m.sheet()
		if m.text.Len() <= api.MaxSheet {
			out = append(out, m)
		}
	}
	return out
}

// B1, B2: rules stand where they say.
func TestParseMadeSheets(t *testing.T) {
	for _, m := range made(1000) {
		wantRules(t, m.text.String(), m.rules...)
	}
}

// B1, B2: declarations by themselves, and printed.
func TestDeclsMade(t *testing.T) {
	for i := range 500 {
		m := &maker{Rand: rand.New(rand.NewPCG(12, uint64(i)))}
		l := m.decls()
		if m.text.Len()+3 > api.MaxSheet {
			continue
		}
		wantDecls(t, m.text.String(), l...)
		if s := sheet.Print(l); len(s)+3 <= api.MaxSheet {
			wantDecls(t, s, l...)
		}
	}
}

// checkFault holds what Parse and Decls tell against what the walker tells.
func checkFault(t *testing.T, s string) {
	t.Helper()
	l, f := sheet.Parse(s)
	if want := sheetFault(s); f != want || f.Err != api.OK && l != nil {
		t.Errorf("Parse(%.300q) is %d rules %v, not %v", s, len(l), f, want)
	}
	d, f := sheet.Decls(s)
	if want := declsFault(s); f != want || f.Err != api.OK && d != nil {
		t.Errorf("Decls(%.300q) is %d of them %v, not %v", s, len(d), f, want)
	}
}

// B2: sheets that were cut, and sheets of which a piece was put in the place of another one.
func TestParseSpoiltSheets(t *testing.T) {
	pieces := []string{
		"", "", "{", "}", ":", ";", ",", " ", "\n", ">", "+", "*", ".", "#", "[", "]", "=", "!", "@", "/*", "*/", "/**/", "\t", "A", "1", "p", "\xff",
		"@media ", "@media a{", "[style]", "[style", ":first", ":last", "!important", "p{}", "a:b;", ".a", "#q.a[b]", ",p", " p", ">p>p>p",
		tooLong, " " + strings.Repeat("w", 30), strings.Repeat("p,", api.MaxSelectors), strings.Repeat(".a", api.MaxTests), strings.Repeat("p{}", api.MaxRules),
	}
	r := rand.New(rand.NewPCG(3, 4))
	for _, m := range made(300) {
		s := m.text.String()
		for n := 0; n <= len(s); n += 1 + len(s)/200 {
			checkFault(t, s[:n])
		}
		for range 200 {
			from := r.IntN(len(s) + 1)
			to := min(len(s), from+r.IntN(3))
			checkFault(t, s[:from]+pieces[r.IntN(len(pieces))]+s[to:])
		}
	}
}

// B2: declarations that were cut or spoilt.
func TestDeclsSpoilt(t *testing.T) {
	pieces := []string{"", ":", ";", " ", "}", "!", "!important", "/*", "*/", "A", "a", ".", "-", "a:b;", tooLong, "\t", strings.Repeat("w", 30)}
	r := rand.New(rand.NewPCG(5, 6))
	for i := range 300 {
		m := &maker{Rand: rand.New(rand.NewPCG(13, uint64(i)))}
		m.decls()
		s := m.text.String()
		for range 100 {
			from := r.IntN(len(s) + 1)
			to := min(len(s), from+r.IntN(3))
			checkFault(t, s[:from])
			checkFault(t, s[:from]+pieces[r.IntN(len(pieces))]+s[to:])
		}
	}
}

// B1, B2: every text of a few short pieces.
func TestParseShortTexts(t *testing.T) {
	pieces := []string{"p", "{", "}", " ", ":", ";", ",", ">", ".", "*", "[style", "[a", "=b", "]", "@media", ":first", "!", "important", "/*", "*/", "\t"}
	var all func(s string, n int)
	all = func(s string, n int) {
		checkFault(t, s)
		if n == 0 {
			return
		}
		for _, p := range pieces {
			all(s+p, n-1)
		}
	}
	all("", 4)
}
