package sheet_test

import (
	"testing"

	"inkwell/api"
)

// B1: gaps are blanks, line feeds and notes, up to the first end.
func TestGaps(t *testing.T) {
	for _, s := range []string{"", " ", "\n", "/**/", "/* x */", " \n /* p{} */\n/*/*/ /***/", "/* \x00\xff\t// */", "/*/**/"} {
		wantRules(t, s)
		n := len(s)
		wantRules(t, s+"p{}"+s+"b{}"+s, rule(n, n+3, plain("p")), rule(2*n+3, 2*n+6, plain("b")))
		wantRules(t, "@media a{"+s+"p{}"+s+"}"+s+"b{}",
			in("a", rule(n+9, n+12, plain("p"))), rule(3*n+13, 3*n+16, plain("b")))
	}
	for _, s := range []string{"\t", "\r", "\v", "\x00", "\xff", "//x\n", "/ * */", "<!-- -->"} {
		wantFault(t, s, api.ErrForm, 0)
		wantFault(t, " "+s, api.ErrForm, 1)
		wantFault(t, "p{}"+s, api.ErrForm, 3)
	}
}

// B2: a note that does not end: at its beginning, wherever it is.
func TestNotesWithoutEnd(t *testing.T) {
	for _, s := range []string{"/*", "/*/", "/* x", "/* * /", "/* p{} @media"} {
		for _, ahead := range []string{
			"", " ", "/**/", "p{}", "p", "p>", "p+ ", "p,", "p b ", "p{", "p{a", "p{a:", "p{a:b", "p{a:b ", "p{a:b!important", "p{a:b;",
			"@media", "@media ", "@media a", "@media a{", "@media a{p{} ", "@media a{}",
		} {
			wantFault(t, ahead+s, api.ErrForm, len(ahead))
		}
	}
	// Where there can't be gaps, the fault is at the same byte.
	for _, ahead := range []string{"p.", "#", "[", "[a", "[a=", "[a=b", "p{a:b!"} {
		wantFault(t, ahead+"/* x", api.ErrForm, len(ahead))
		wantFault(t, ahead+"/* x */", api.ErrForm, len(ahead))
		wantFault(t, ahead+" ", api.ErrForm, len(ahead))
	}
}

// B1, B2: rules as they stand.
func TestRules(t *testing.T) {
	wantRules(t, "p{}", rule(0, 3, plain("p")))
	wantRules(t, "p{}b{}", rule(0, 3, plain("p")), rule(3, 6, plain("b")))
	wantRules(t, " p , b {\n} i{a:b}",
		rule(1, 10, plain("p"), plain("b")), with(rule(11, 17, plain("i")), decl("a", "b")))
	wantRules(t, "p{color:red;size:12!important}",
		with(rule(0, 30, plain("p")), decl("color", "red"), strong("size", "12")))
	// A rule ends with its brace, and has what it has as often as it has it.
	wantRules(t, "p,p{a:b;a:b}p{a:b}",
		with(rule(0, 12, plain("p"), plain("p")), decl("a", "b"), decl("a", "b")),
		with(rule(12, 18, plain("p")), decl("a", "b")))
	// What a declaration says is no selector, and what a name says is only a name.
	wantRules(t, "first{media:important}",
		with(rule(0, 22, plain("first")), decl("media", "important")))
}

// B2: where a rule is not as it must be.
func TestRulesForm(t *testing.T) {
	for _, c := range []struct {
		s  string
		at int
	}{
		{"p", 1}, {"p ", 2}, {"p/**/", 5}, {"p,", 2}, {"p, ", 3}, {"p{", 2}, {"p{ ", 3}, {"p{a:b", 5}, {"p{a:b;", 6},
		{"{", 0}, {"{}", 0}, {"}", 0}, {";", 0}, {"p{}}", 3}, {"p{};", 3}, {"p{} ;", 4}, {"p{},b{}", 3},
		{",p{}", 0}, {"p,{}", 2}, {"p, {}", 3}, {"p,,b{}", 2}, {"p,b,{}", 4}, {"p;b{}", 1}, {"p}", 1}, {"p }", 2},
		{"p{{}}", 2}, {"p{}{}", 3}, {"p{b{}}", 3}, {"P{}", 0}, {"1{}", 0}, {"-a{}", 0}, {"pQ{}", 1}, {"p_{}", 1}, {"p\xff{}", 1}, {"p\t{}", 1}, {"p \t{}", 2},
		{"a:b", 1}, {"@", 0}, {"@page{}", 0}, {"@medi a{}", 0}, {"@Media a{}", 0}, {" @ media a{}", 1},
	} {
		wantFault(t, c.s, api.ErrForm, c.at)
	}
}

// B1, B2: rules of media.
func TestMedia(t *testing.T) {
	wantRules(t, "@media a{}")
	wantRules(t, "@media/**/a{}\n@media\na\n{\n}")
	wantRules(t, "@media wide{p{}b{}}i{}",
		in("wide", rule(12, 15, plain("p"))), in("wide", rule(15, 18, plain("b"))), rule(19, 22, plain("i")))
	wantRules(t, "i{} @media  wide /* x */ { p , b { a:b } } @media tall{p{}} i{}",
		rule(0, 3, plain("i")),
		with(in("wide", rule(27, 40, plain("p"), plain("b"))), decl("a", "b")),
		in("tall", rule(55, 58, plain("p"))), rule(60, 63, plain("i")))
	wantRules(t, "@media media{media{}}", in("media", rule(13, 20, plain("media"))))
}

// B2: where media are not as they must be.
func TestMediaForm(t *testing.T) {
	for _, c := range []struct {
		s  string
		at int
	}{
		{"@media", 6}, {"@media{", 6}, {"@media{p{}}", 6}, {"@mediawide{}", 6}, {"@media\ta{}", 6}, {"@media:a{}", 6},
		{"@media ", 7}, {"@media {}", 7}, {"@media A{}", 7}, {"@media 1{}", 7}, {"@media (a){}", 7}, {"@media *{}", 7},
		{"@media a", 8}, {"@media a ", 9}, {"@media a;", 8}, {"@media a b{}", 9}, {"@media a,b{}", 8}, {"@media aB{}", 8}, {"@media wide p{}", 12},
		{"@media a{", 9}, {"@media a{ ", 10}, {"@media a{p", 10}, {"@media a{p{", 11}, {"@media a{p{}", 12}, {"@media a{p{} ", 13},
		{"@media a{}}", 10}, {"@media a{p{}}}", 13}, {"@media a{;}", 9}, {"@media a{b:c}", 10}, {"@media a{{}}", 9}, {"@media a{,p{}}", 9},
		{"@media a{@media b{}}", 9}, {"@media a{p{} @media a{p{}}}", 13}, {"@media a{@page{}}", 9}, {"p{@media a{}}", 2}, {"p,@media a{}", 2},
	} {
		wantFault(t, c.s, api.ErrForm, c.at)
	}
}
