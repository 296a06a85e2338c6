package page_test

import (
	"math/rand/v2"
	"regexp"
	"slices"
	"strings"
	"testing"

	"inkwell/api"
	"inkwell/page"
)

// maker writes a page, and beside it the elements that it has.
type maker struct {
	*rand.Rand
	text  strings.Builder
	nodes []api.Node
}

func (m *maker) pick(l ...string) string { return l[m.IntN(len(l))] }

func (m *maker) write(s string) { m.text.WriteString(s) }

func (m *maker) items(parent, deep int) {
	for range m.IntN(5) {
		switch m.IntN(4) {
		case 0:
			m.write(m.pick("x", "\n", " & > ", "\"a='", "-->"))
		case 1:
			m.write(m.pick("<!---->", "<!--<p>\x00-->", "<!-- </p> --->"))
		default:
			if deep <= api.MaxDeep && len(m.nodes) < api.MaxNodes {
				m.element(parent, deep)
			}
		}
	}
}

func (m *maker) element(parent, deep int) {
	k := len(m.nodes)
	n := api.Node{Name: m.pick("p", "b", "h1", "style", "styles", "a-b", strings.Repeat("n", api.MaxName)), Parent: parent}
	m.write("<" + n.Name)
	n.NameEnd = m.text.Len()
	m.attrs(&n)
	m.write(">")
	m.nodes = append(m.nodes, n)
	if n.Name == "style" {
		inner := m.pick("", "p{a:b}", "<b></b>", "\xff</style </p>")
		m.nodes[k].Inner = api.Span{From: m.text.Len(), To: m.text.Len() + len(inner)}
		m.write(inner)
	} else {
		m.items(k, deep+1)
	}
	m.write("</" + n.Name + ">")
}

func (m *maker) attrs(n *api.Node) {
	names := []string{"a", "b", "c", "id", "class", "style", "x-1", strings.Repeat("v", api.MaxName)}
	for _, i := range m.Perm(len(names))[:m.IntN(len(names)+1)/(1+m.IntN(4))] {
		a := api.Attr{Name: names[i], Val: m.pick("", "q", "a b", "='>-", "color: red; size: 12")}
		a.At.From = m.text.Len()
		m.write(" " + a.Name + `="` + a.Val + `"`)
		a.At.To = m.text.Len()
		n.Attrs = append(n.Attrs, a)
	}
}

// made is pages that have no fault, always the same ones.
func made(n int) []*maker {
	var out []*maker
	for i := 0; len(out) < n; i++ {
		m := &maker{Rand: rand.New(rand.NewPCG(7, uint64(i)))}
		m.items(-1, 1)
		if m.text.Len() <= api.MaxPage && len(m.nodes) > 0 {
			out = append(out, m)
		}
	}
	return out
}

// A1, A2: elements stand where they say.
func TestParseMadePages(t *testing.T) {
	for _, m := range made(500) {
		wantNodes(t, m.text.String(), m.nodes...)
	}
}

var (
	noteForm  = regexp.MustCompile(`^(?s:<!--.*?-->)`)
	nameForm  = regexp.MustCompile(`^[a-z][a-z0-9-]*`)
	valueForm = regexp.MustCompile(`^[ !#-%'-;=-~]*`)
	textForm  = regexp.MustCompile(`^[\n -;=-~]`)
)

// firstFault is A1 and A2 said another way: by patterns, and a list of the elements that have not ended.
func firstFault(s string) api.Fault {
	if len(s) > api.MaxPage {
		return api.Fault{Err: api.ErrMuch}
	}
	var open []string
	at, count := 0, 0
	for at < len(s) {
		rest := s[at:]
		switch {
		case strings.HasPrefix(rest, "</"):
			if len(open) == 0 || !strings.HasPrefix(rest, "</"+open[len(open)-1]+">") {
				return api.Fault{Err: api.ErrForm, At: at}
			}
			at += len(open[len(open)-1]) + 3
			open = open[:len(open)-1]
		case strings.HasPrefix(rest, "<!--"):
			n := len(noteForm.FindString(rest))
			if n == 0 {
				return api.Fault{Err: api.ErrForm, At: len(s)}
			}
			at += n
		case rest[0] == '<':
			if len(open) == api.MaxDeep || count == api.MaxNodes {
				return api.Fault{Err: api.ErrMuch, At: at}
			}
			count++
			name, n, f := tagFault(rest)
			if f.Err != api.OK {
				return api.Fault{Err: f.Err, At: at + f.At}
			}
			at += n
			if name != "style" {
				open = append(open, name)
			} else if _, behind, ok := strings.Cut(s[at:], "</style>"); ok {
				at = len(s) - len(behind)
			} else {
				return api.Fault{Err: api.ErrForm, At: len(s)}
			}
		case !textForm.MatchString(rest):
			return api.Fault{Err: api.ErrForm, At: at}
		default:
			at++
		}
	}
	if len(open) > 0 {
		return api.Fault{Err: api.ErrForm, At: at}
	}
	return api.Fault{}
}

// tagFault is firstFault for the first tag with which s begins: its name, how long it is, and its fault.
func tagFault(s string) (string, int, api.Fault) {
	name := nameForm.FindString(s[1:])
	at := 1 + len(name)
	if name == "" {
		return "", 0, api.Fault{Err: api.ErrForm, At: 1}
	}
	if len(name) > api.MaxName {
		return "", 0, api.Fault{Err: api.ErrName, At: 1}
	}
	var has []string
	for strings.HasPrefix(s[at:], " ") {
		at++
		a := nameForm.FindString(s[at:])
		if a == "" {
			return "", 0, api.Fault{Err: api.ErrForm, At: at}
		}
		if len(has) == api.MaxAttrs {
			return "", 0, api.Fault{Err: api.ErrMany, At: at}
		}
		if len(a) > api.MaxName || slices.Contains(has, a) {
			return "", 0, api.Fault{Err: api.ErrName, At: at}
		}
		has = append(has, a)
		at += len(a)
		if !strings.HasPrefix(s[at:], `="`) {
			return "", 0, api.Fault{Err: api.ErrForm, At: at}
		}
		at += 2
		at += len(valueForm.FindString(s[at:]))
		if !strings.HasPrefix(s[at:], `"`) {
			return "", 0, api.Fault{Err: api.ErrForm, At: at}
		}
		at++
	}
	if !strings.HasPrefix(s[at:], ">") {
		return "", 0, api.Fault{Err: api.ErrForm, At: at}
	}
	return name, at + 1, api.Fault{}
}

// checkFault holds what Parse tells against firstFault.
func checkFault(t *testing.T, s string) {
	t.Helper()
	l, f := page.Parse(s)
	if want := firstFault(s); f != want || f.Err != api.OK && len(l) != 0 {
		t.Errorf("Parse(%.200q) is %d elements %v, not %v", s, len(l), f, want)
	}
}

// A2: pages that were cut, and pages of which a piece was put in the place of another one.
func TestParseSpoiltPages(t *testing.T) {
	pieces := []string{"", "<", ">", "/", "</", `"`, " ", "=", "&", "\t", "\xff", "-", "<!--", "-->", "<style>", "</style>", "</p>", "<b>", ` a=""`, "nnnnnnnnnnnnnnnnnnnnn"}
	r := rand.New(rand.NewPCG(1, 2))
	for _, m := range made(200) {
		s := m.text.String()
		for n := 0; n <= len(s); n += 1 + len(s)/300 {
			checkFault(t, s[:n])
		}
		for range 200 {
			from := r.IntN(len(s) + 1)
			to := min(len(s), from+r.IntN(3))
			checkFault(t, s[:from]+pieces[r.IntN(len(pieces))]+s[to:])
		}
	}
}

// A1, A2: every text of a few short pieces.
func TestParseShortTexts(t *testing.T) {
	pieces := []string{"<p", "<style", ">", "</p>", "</style>", ` a="`, `"`, "x", "<!--", "-->", "\t"}
	var all func(s string, n int)
	all = func(s string, n int) {
		checkFault(t, s)
		if n == 0 {
			return
		}
		for _, p := range pieces {
			all(s+p, n-1)
		}
	}
	all("", 5)
}
