package sheet_test

import (
	"reflect"
	"strings"
	"testing"

	"inkwell/api"
	"inkwell/sheet"
)

func name(s string) api.Test { return api.Test{Kind: api.IsName, Name: s} }

func class(s string) api.Test { return api.Test{Kind: api.IsClass, Name: s} }

func id(s string) api.Test { return api.Test{Kind: api.IsID, Name: s} }

func has(s string) api.Test { return api.Test{Kind: api.HasAttr, Name: s} }

func is(s, val string) api.Test { return api.Test{Kind: api.IsAttr, Name: s, Val: val} }

func first() api.Test { return api.Test{Kind: api.IsFirst} }

func part(join int, tests ...api.Test) api.Part { return api.Part{Join: join, Tests: tests} }

// plain is a selector of one name.
func plain(s string) api.Selector { return api.Selector{part(api.Any, name(s))} }

func decl(name, val string) api.Decl { return api.Decl{Name: name, Val: val} }

func strong(name, val string) api.Decl { return api.Decl{Name: name, Val: val, Strong: true} }

// rule has no declarations; at is where it stands.
func rule(from, to int, l ...api.Selector) api.Rule {
	return api.Rule{Selectors: l, At: api.Span{From: from, To: to}}
}

func in(media string, r api.Rule) api.Rule {
	r.Media = media
	return r
}

func with(r api.Rule, l ...api.Decl) api.Rule {
	r.Decls = l
	return r
}

// sameList: whether they are the same, nil and empty being so (Z3).
func sameList[T any](a, b []T) bool {
	return len(a) == len(b) && (len(a) == 0 || reflect.DeepEqual(a, b))
}

func sameSelectors(a, b []api.Selector) bool {
	if len(a) != len(b) {
		return false
	}
	for i := range a {
		if len(a[i]) != len(b[i]) {
			return false
		}
		for k := range a[i] {
			if a[i][k].Join != b[i][k].Join || !sameList(a[i][k].Tests, b[i][k].Tests) {
				return false
			}
		}
	}
	return true
}

func sameRules(a, b []api.Rule) bool {
	if len(a) != len(b) {
		return false
	}
	for i := range a {
		if a[i].Media != b[i].Media || a[i].At != b[i].At || !sameList(a[i].Decls, b[i].Decls) || !sameSelectors(a[i].Selectors, b[i].Selectors) {
			return false
		}
	}
	return true
}

func wantRules(t *testing.T, s string, want ...api.Rule) {
	t.Helper()
	if got, f := sheet.Parse(s); f != (api.Fault{}) || !sameRules(got, want) {
		t.Errorf("Parse(%.200q) is %v %v, not %v", s, got, f, want)
	}
}

func wantFault(t *testing.T, s string, err api.Errno, at int) {
	t.Helper()
	if got, f := sheet.Parse(s); f != (api.Fault{Err: err, At: at}) || got != nil {
		t.Errorf("Parse(%.200q) is %v %v, not the fault {%d %d}", s, got, f, err, at)
	}
}

// wantSelector: s is a selector, or some, of a rule without declarations.
func wantSelector(t *testing.T, s string, want ...api.Selector) {
	t.Helper()
	wantRules(t, s+"{}", rule(0, len(s)+2, want...))
}

// wantDecls: s is declarations, alone and in a rule.
func wantDecls(t *testing.T, s string, want ...api.Decl) {
	t.Helper()
	if got, f := sheet.Decls(s); f != (api.Fault{}) || !sameList(got, want) {
		t.Errorf("Decls(%.200q) is %v %v, not %v", s, got, f, want)
	}
	wantRules(t, "p{"+s+"}", with(rule(0, len(s)+3, plain("p")), want...))
}

func wantDeclsFault(t *testing.T, s string, err api.Errno, at int) {
	t.Helper()
	if got, f := sheet.Decls(s); f != (api.Fault{Err: err, At: at}) || got != nil {
		t.Errorf("Decls(%.200q) is %v %v, not the fault {%d %d}", s, got, f, err, at)
	}
}

// wantDeclsFaults: the same fault alone and in a rule.
func wantDeclsFaults(t *testing.T, s string, err api.Errno, at int) {
	t.Helper()
	wantDeclsFault(t, s, err, at)
	wantFault(t, "p{"+s+"}", err, at+2)
}

// list is n times s, with sep between.
func list(s, sep string, n int) string {
	return strings.TrimSuffix(strings.Repeat(s+sep, n), sep)
}
