package sheet_test

import (
	"slices"
	"strings"
	"testing"

	"inkwell/api"
)

var (
	longest = strings.Repeat("n", api.MaxName)
	tooLong = longest + "n"
)

// B2: MaxSheet, at the bound and past it.
func TestMaxSheet(t *testing.T) {
	full := strings.Repeat(" ", api.MaxSheet)
	wantRules(t, full)
	wantRules(t, full[3:]+"p{}", rule(api.MaxSheet-3, api.MaxSheet, plain("p")))
	wantFault(t, full[1:]+"?", api.ErrForm, api.MaxSheet-1)
	for _, s := range []string{full + " ", full + "?", "?" + full, full[3:] + " p{}", strings.Repeat("p", 10*api.MaxSheet)} {
		wantFault(t, s, api.ErrMuch, 0)
		wantDeclsFault(t, s, api.ErrMuch, 0)
	}
	wantDeclsFault(t, full[1:]+"?", api.ErrForm, api.MaxSheet-1)
	wantDeclsFault(t, full[3:]+" a:b", api.ErrMuch, 0)
	wantDecls(t, full[6:]+"a:b", decl("a", "b"))
}

// B2: MaxName, at the bound and past it, wherever a name stands.
func TestMaxName(t *testing.T) {
	wantSelector(t, longest, plain(longest))
	wantSelector(t, "."+longest+"#"+longest+"["+longest+"]["+longest+"="+longest+"]",
		api.Selector{part(api.Any, class(longest), id(longest), has(longest), is(longest, longest))})
	wantRules(t, "@media "+longest+"{p{}}", in(longest, rule(8+api.MaxName, 11+api.MaxName, plain("p"))))
	wantDecls(t, longest+":b", decl(longest, "b"))
	for _, ahead := range []string{"", "p{}", "p,", "p ", "p>", "p+ ", ".", "p.", "#", "[", "[a=", "@media ", "@media a{", "p{", "p{a:b;", "p{a:b; "} {
		for _, behind := range []string{"", " ", "{}", "]{}", ":b}", "?"} {
			wantFault(t, ahead+tooLong+behind, api.ErrForm, len(ahead))
		}
	}
	wantDeclsFaults(t, tooLong+":b", api.ErrForm, 0)
	wantDeclsFaults(t, "a:b;"+tooLong, api.ErrForm, 4)
	// A value's word is no name.
	wantDecls(t, "a:"+tooLong, decl("a", tooLong))
}

// B2: MaxRules, at the bound and past it.
func TestMaxRules(t *testing.T) {
	full := strings.Repeat("p{}", api.MaxRules)
	var want []api.Rule
	for i := range api.MaxRules {
		want = append(want, rule(3*i, 3*i+3, plain("p")))
	}
	wantRules(t, full, want...)
	wantRules(t, full+" /* p{} */ @media a{ }@media b{}", want...)
	for i := range want {
		want[i] = in("a", rule(9+3*i, 12+3*i, plain("p")))
	}
	wantRules(t, "@media a{"+full+"}", want...)
	at := len(full)
	for _, c := range []struct {
		s  string
		at int
	}{
		{full + "p{}", at}, {full + "\n/**/.a{}", at + 5}, {full + "*", at}, {full + "p?", at}, {full + "[style]{}", at}, {full + ":first", at}, {full + ".{}", at}, {full + tooLong + "{}", at},
		{full + "@media a{b{}}", at + 9}, {full + "@media a{ b{}}", at + 10}, {"@media a{" + full + "b{}}", at + 9}, {"@media a{" + full + "}b{}", at + 10},
		{"@media a{" + full[3:] + "}@media b{p{}p{}}", at + 19},
	} {
		wantFault(t, c.s, api.ErrMany, c.at)
	}
	// No rule begins here.
	for _, s := range []string{"{}", ",", "?", ">p{}", ":last", "@", "/*"} {
		wantFault(t, full+s, api.ErrForm, at)
		wantFault(t, full+"@media a{"+s, api.ErrForm, at+9)
	}
	wantFault(t, full+"}", api.ErrForm, at)
	wantFault(t, full+"@media a{@media b{p{}}}", api.ErrForm, at+9)
	wantFault(t, "@media a{"+full, api.ErrForm, at+9)
	// What is wrong further left is told first.
	wantFault(t, "?"+full+"p{}", api.ErrForm, 0)
	wantFault(t, full[3:]+"p{?}p{}", api.ErrForm, at-1)
}

// B2: MaxSelectors, at the bound and past it, of each rule.
func TestMaxSelectors(t *testing.T) {
	full := list("p", ",", api.MaxSelectors)
	at := len(full)
	want := slices.Repeat([]api.Selector{plain("p")}, api.MaxSelectors)
	wantRules(t, full+"{}"+full+"{}", rule(0, at+2, want...), rule(at+2, 2*at+4, want...))
	wantFault(t, full+",p{}", api.ErrMany, at+1)
	wantFault(t, full+" , \n/**/p{}", api.ErrMany, at+8)
	wantFault(t, "b{}"+full+",p{}", api.ErrMany, at+4)
	for _, s := range []string{"p", "p?", ".", "*", "[style]", ":first", tooLong} {
		wantFault(t, full+","+s, api.ErrMany, at+1)
	}
	for _, s := range []string{"", "{}", ",p{}", ">p{}", "?", ":last", "}"} {
		wantFault(t, full+","+s, api.ErrForm, at+1)
	}
	wantFault(t, full+"/*,p{}", api.ErrForm, at)
	wantFault(t, full+",/*p{}", api.ErrForm, at+1)
	wantFault(t, full[2:]+",[style],p{}", api.ErrKind, at+5)
}

// B2: MaxParts, at the bound and past it, of each selector.
func TestMaxParts(t *testing.T) {
	for _, sep := range []string{" ", ">", " + "} {
		full := list("p", sep, api.MaxParts)
		at := len(full)
		join := map[string]int{" ": api.Below, ">": api.Child, " + ": api.Next}[sep]
		want := append(plain("p"), slices.Repeat([]api.Part{part(join, name("p"))}, api.MaxParts-1)...)
		wantSelector(t, full+" , "+full+" ", want, want)
		for _, s := range []string{"p{}", ".a{}", "*", ".", "p?", "[style]", ":first", tooLong} {
			wantFault(t, full+sep+s, api.ErrMany, at+len(sep))
			wantFault(t, "b,"+full+" "+s, api.ErrMany, at+3)
			wantFault(t, full+" + /**/"+s, api.ErrMany, at+7)
		}
		for _, s := range []string{"?", ":last", "}", ";"} {
			wantFault(t, full+" "+s, api.ErrForm, at+1)
			wantFault(t, full+" > "+s, api.ErrForm, at+3)
		}
		wantFault(t, full+">{}", api.ErrForm, at+1)
		wantFault(t, full+"+", api.ErrForm, at+1)
		wantFault(t, full+" ", api.ErrForm, at+1)
		wantFault(t, full+" /*p{}", api.ErrForm, at+1)
	}
}

// B2: MaxTests, at the bound and past it, of each part; a name is one, and a star none.
func TestMaxTests(t *testing.T) {
	for _, c := range []struct {
		s string
		t api.Test
	}{
		{".a", class("a")}, {"#q", id("q")}, {":first", first()}, {"[a]", has("a")}, {"[a=b]", is("a", "b")},
	} {
		full := strings.Repeat(c.s, api.MaxTests)
		want := slices.Repeat([]api.Test{c.t}, api.MaxTests)
		named := append([]api.Test{name("p")}, want[1:]...)
		n, at := len(c.s), len(full)
		wantSelector(t, full, api.Selector{part(api.Any, want...)})
		wantSelector(t, "*"+full, api.Selector{part(api.Any, want...)})
		wantSelector(t, "p"+full[n:], api.Selector{part(api.Any, named...)})
		wantSelector(t, full+" "+full, api.Selector{part(api.Any, want...), part(api.Below, want...)})
		for _, s := range []string{"{}", ".a{}", " {}", ",b{}", "", "?", "*", "/*"} {
			wantFault(t, full+".b"+s, api.ErrMany, at+2)
			wantFault(t, "*"+full+":first"+s, api.ErrMany, at+7)
			wantFault(t, "p"+full+s, api.ErrMany, at+1)
			wantFault(t, "b,i>"+full+"[c=d]"+s, api.ErrMany, at+9)
		}
		// What is wrong within the test too many is further left.
		wantFault(t, full+".", api.ErrForm, at+1)
		wantFault(t, full+"."+tooLong, api.ErrForm, at+1)
		wantFault(t, full+"[style]{}", api.ErrKind, at+6)
		wantFault(t, full+"[a=b{}", api.ErrForm, at+4)
		wantFault(t, full+":last{}", api.ErrForm, at)
		wantFault(t, full+"*{}", api.ErrForm, at)
	}
}

// B2: MaxDecls, at the bound and past it, of each rule.
func TestMaxDecls(t *testing.T) {
	full := list("a:b", ";", api.MaxDecls)
	at := len(full)
	want := slices.Repeat([]api.Decl{decl("a", "b")}, api.MaxDecls)
	wantDecls(t, full, want...)
	wantDecls(t, full+" ; \n/* a:b */", want...)
	wantRules(t, "p{"+full+"}p{"+full+"}", with(rule(0, at+3, plain("p")), want...), with(rule(at+3, 2*at+6, plain("p")), want...))
	for _, s := range []string{"a:b", "c:d;", "c", "c?", "c:E", tooLong} {
		wantDeclsFaults(t, full+";"+s, api.ErrMany, at+1)
		wantDeclsFaults(t, full+" ;\n/**/"+s, api.ErrMany, at+7)
	}
	for _, s := range []string{";", ":b", "?", "A:b", "1:b", "!important"} {
		wantDeclsFaults(t, full+";"+s, api.ErrForm, at+1)
	}
	wantDeclsFault(t, full+";}", api.ErrForm, at+1)
	wantDeclsFaults(t, full+" c:d", api.ErrForm, at+2)
	wantDeclsFault(t, full+";/*", api.ErrForm, at+1)
	wantDeclsFaults(t, "?"+full+";a:b", api.ErrForm, 0)
}

// B2: MaxVal, at the bound and past it: one word, and several with a blank between, however they stand.
func TestMaxVal(t *testing.T) {
	x := strings.Repeat("x", api.MaxVal)
	wantDecls(t, "a:"+x, decl("a", x))
	wantDecls(t, "a:  "+x+"/* y */ !important;b:"+x, strong("a", x), decl("b", x))
	wantDecls(t, "a:"+x[5:]+" \n/**/ yyyy", decl("a", x[5:]+" yyyy"))
	words := list("y", " ", (api.MaxVal+1)/2) + "y"
	wantDecls(t, "a:"+words, decl("a", words))
	for _, c := range []struct {
		s  string
		at int
	}{
		{"a:" + x + "x", 2}, {"a: /**/" + x + "x", 7}, {"a:" + x + x + "?", 2}, {"c:d;a:" + x + "x", 6}, {"a:" + x + "x;c:" + x + "x", 2},
		{"a:" + x + " y", 3 + api.MaxVal}, {"a:" + x[1:] + " y", 2 + api.MaxVal}, {"a:" + x[5:] + "/* */yyyyy z", 2 + api.MaxVal},
		{"a:" + words + " y", 3 + api.MaxVal}, {"a:y " + x[1:], 4}, {"a:y " + x[1:] + "?", 4}, {"a:y " + x[1:] + " " + x + x, 4},
	} {
		wantDeclsFaults(t, c.s, api.ErrMuch, c.at)
	}
	wantDeclsFaults(t, "a:"+x+" ?", api.ErrForm, 3+api.MaxVal)
	wantDeclsFaults(t, "?:"+x+"x", api.ErrForm, 0)
}
