package sheet_test

import (
	"testing"

	"inkwell/api"
)

// B1: parts and their tests.
func TestParts(t *testing.T) {
	one := func(l ...api.Test) api.Selector { return api.Selector{part(api.Any, l...)} }
	wantSelector(t, "*", one())
	wantSelector(t, "p", one(name("p")))
	wantSelector(t, "h1-", one(name("h1-")))
	wantSelector(t, ".a", one(class("a")))
	wantSelector(t, "#q", one(id("q")))
	wantSelector(t, ":first", one(first()))
	wantSelector(t, "[a]", one(has("a")))
	wantSelector(t, "[a=b]", one(is("a", "b")))
	wantSelector(t, "*.a", one(class("a")))
	wantSelector(t, "*:first", one(first()))
	wantSelector(t, "p.a#q:first[a][b=c]", one(name("p"), class("a"), id("q"), first(), has("a"), is("b", "c")))
	wantSelector(t, "[a=b][a]:first#q.a.a", one(is("a", "b"), has("a"), first(), id("q"), class("a"), class("a")))
	wantSelector(t, ":first:first", one(first(), first()))
	wantSelector(t, "first", one(name("first")))
}

// B2: where a part is not as it must be.
func TestPartsForm(t *testing.T) {
	for _, c := range []struct {
		s  string
		at int
	}{
		{"**{}", 1}, {"*p{}", 1}, {"p*{}", 1}, {".a*{}", 2}, {":firstp{}", 6}, {":first*{}", 6}, {"[a]p{}", 3},
		{".{}", 1}, {". a{}", 1}, {".A{}", 1}, {".1{}", 1}, {"..a{}", 1}, {".*{}", 1}, {"p.", 2}, {"p.a.", 4},
		{"#{}", 1}, {"# a{}", 1}, {"#1{}", 1}, {"##a{}", 1}, {"p#", 2},
		{":{}", 0}, {":last{}", 0}, {":firs{}", 0}, {":First{}", 0}, {": first{}", 0}, {"::first{}", 0}, {"p:{}", 1}, {"p:last{}", 1}, {"p.a:firs", 3},
		{"p:first-x{}", 7}, {"p:firsts{}", 7}, {"p:first(1){}", 7},
		{"[", 1}, {"[]{}", 1}, {"[A]{}", 1}, {"[ a]{}", 1}, {"[=b]{}", 1}, {"[.a]{}", 1},
		{"[a", 2}, {"[a{}", 2}, {"[a ]{}", 2}, {"[a =b]{}", 2}, {"[a~=b]{}", 2}, {"[a:b]{}", 2}, {"[aA]{}", 2},
		{"[a=", 3}, {"[a=]{}", 3}, {"[a= b]{}", 3}, {"[a=1]{}", 3}, {"[a=\"b\"]{}", 3}, {"[a==b]{}", 3},
		{"[a=b", 4}, {"[a=b{}", 4}, {"[a=b ]{}", 4}, {"[a=b=c]{}", 4}, {"[a]]{}", 3}, {"[[a]]{}", 1},
		{"p!{}", 1}, {"p~b{}", 1}, {"p|b{}", 1}, {"(p){}", 0}, {"p&{}", 1},
	} {
		wantFault(t, c.s, api.ErrForm, c.at)
	}
}

// B1: what joins parts.
func TestJoins(t *testing.T) {
	two := func(join int) api.Selector { return api.Selector{part(api.Any, name("p")), part(join, name("b"))} }
	gaps := []string{"", " ", "\n", "  ", "/**/", " /* > */ ", "\n/*,*//*{*/"}
	for _, a := range gaps {
		for _, b := range gaps {
			wantSelector(t, "p"+a+">"+b+"b", two(api.Child))
			wantSelector(t, "p"+a+"+"+b+"b", two(api.Next))
			wantSelector(t, "p"+a+","+b+"b", plain("p"), plain("b"))
		}
		wantSelector(t, "p"+a, plain("p"))
		wantSelector(t, "p b"+a, two(api.Below))
		if a != "" {
			wantSelector(t, "p"+a+"b", two(api.Below))
		}
	}
	// A gap ends a part, even ahead of what could be one of its tests.
	wantSelector(t, "p .a", api.Selector{part(api.Any, name("p")), part(api.Below, class("a"))})
	wantSelector(t, "p/**/#q", api.Selector{part(api.Any, name("p")), part(api.Below, id("q"))})
	wantSelector(t, "p :first", api.Selector{part(api.Any, name("p")), part(api.Below, first())})
	wantSelector(t, "p [a]", api.Selector{part(api.Any, name("p")), part(api.Below, has("a"))})
	wantSelector(t, "* *", api.Selector{part(api.Any), part(api.Below)})
	wantSelector(t, "*>*+*", api.Selector{part(api.Any), part(api.Child), part(api.Next)})
	wantSelector(t, "p b>i+div .a", api.Selector{
		part(api.Any, name("p")), part(api.Below, name("b")), part(api.Child, name("i")), part(api.Next, name("div")), part(api.Below, class("a")),
	})
	wantSelector(t, "p b , i > u", two(api.Below), api.Selector{part(api.Any, name("i")), part(api.Child, name("u"))})
}

// B2: where something must follow a join, or can't stand behind gaps.
func TestJoinsForm(t *testing.T) {
	for _, c := range []struct {
		s  string
		at int
	}{
		{"> p{}", 0}, {"+p{}", 0}, {"p>>b{}", 2}, {"p> >b{}", 3}, {"p>+b{}", 2}, {"p++b{}", 2},
		{"p>{}", 2}, {"p >{}", 3}, {"p > {}", 4}, {"p>", 2}, {"p> ", 3}, {"p>,b{}", 2}, {"p+ ,b{}", 3}, {"p+}", 2},
		{"p,>b{}", 2}, {"p, +b{}", 3}, {"p }", 2}, {"p ;", 2}, {"p :last{}", 2}, {"p ]", 2}, {"p \xff", 2}, {"p ~ b{}", 2}, {"p B{}", 2},
	} {
		wantFault(t, c.s, api.ErrForm, c.at)
	}
}

// B2: no test hangs on an element's own style.
func TestStyleTest(t *testing.T) {
	for _, c := range []struct {
		s  string
		at int
	}{
		{"[style]{}", 6}, {"[style=x]{}", 6}, {"[style=style]{}", 6}, {"p.a[a][style]{}", 12}, {"b{}p,i>[style]{}", 13}, {"@media a{[style]{}}", 15},
		// It is told as soon as the name ends: from the left, what follows it comes later.
		{"[style", 6}, {"[style{}", 6}, {"[style=]{}", 6}, {"p[style=1", 7},
	} {
		wantFault(t, c.s, api.ErrKind, c.at)
	}
	wantSelector(t, "[styles][a-style][a=style].style#style", api.Selector{part(api.Any, has("styles"), has("a-style"), is("a", "style"), class("style"), id("style"))})
	wantRules(t, "style{style:style}", with(rule(0, 18, plain("style")), decl("style", "style")))
	wantFault(t, "?[style]{}", api.ErrForm, 0)
	wantFault(t, "[styl?e]{}", api.ErrForm, 5)
}
