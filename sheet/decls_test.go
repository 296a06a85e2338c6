package sheet_test

import (
	"strings"
	"testing"

	"inkwell/api"
	"inkwell/sheet"
)

// B1: declarations, alone and in a rule.
func TestDecls(t *testing.T) {
	wantDecls(t, "")
	wantDecls(t, " \n/* a:b */")
	wantDecls(t, "color:red", decl("color", "red"))
	wantDecls(t, "color: red;", decl("color", "red"))
	wantDecls(t, " color : red ; size:12 !important ", decl("color", "red"), strong("size", "12"))
	wantDecls(t, "a:b;a:c;a:b", decl("a", "b"), decl("a", "c"), decl("a", "b"))
	wantDecls(t, "a:b!important;c:d", strong("a", "b"), decl("c", "d"))
	wantDecls(t, "a-1:important", decl("a-1", "important"))
	wantDecls(t, "/*1*/a/*2*/:/*3*/b/*4*/!important/*5*/;/*6*/c:d/*7*/;/*8*/", strong("a", "b"), decl("c", "d"))
	wantDecls(t, "\na\n:\nb\n!important\n;\n", strong("a", "b"))
}

// B1: values are words, whatever the gaps between them are.
func TestValues(t *testing.T) {
	wantDecls(t, "a:b c", decl("a", "b c"))
	wantDecls(t, "a:b  c\n\nd/* e */f /**/ g", decl("a", "b c d f g"))
	wantDecls(t, "a: red #fff 1.5% -2 . # % -", decl("a", "red #fff 1.5% -2 . # % -"))
	wantDecls(t, "a:1b c-", decl("a", "1b c-"))
	wantDecls(t, "a:b ;c:d e !important", decl("a", "b"), strong("c", "d e"))
	for b := range 256 {
		one := string([]byte{byte(b)})
		s := "a:x" + one + "y"
		switch {
		case strings.Contains("abcdefghijklmnopqrstuvwxyz0123456789#.%-", one):
			wantDecls(t, s, decl("a", "x"+one+"y"))
			wantDecls(t, "a:"+one, decl("a", one))
		case one == " " || one == "\n":
			wantDecls(t, s, decl("a", "x y"))
		case one == "!":
			wantDeclsFaults(t, s, api.ErrForm, 4)
		case one == ";":
			wantDeclsFaults(t, s, api.ErrForm, 5)
		case one == "}":
			wantDeclsFault(t, s, api.ErrForm, 3)
			wantFault(t, "p{"+s+"}", api.ErrForm, 7)
		default:
			wantDeclsFaults(t, s, api.ErrForm, 3)
		}
	}
}

// B2: where declarations are not as they must be.
func TestDeclsForm(t *testing.T) {
	for _, c := range []struct {
		s  string
		at int
	}{
		{"color", 5}, {"color ", 6}, {":red", 0}, {"color:", 6}, {"color: ", 7}, {"color:;", 6}, {"a::b", 2}, {"a=b", 1}, {"a b:c", 2}, {"a.b:c", 1},
		{";", 0}, {" ;", 1}, {"a:b;;", 4}, {"a:b; ;", 5}, {"a:b;c", 5}, {"a:b;c:", 6}, {"a:b c:d", 5}, {"a:b,c", 3}, {"a:b:c", 3}, {"a:(b)", 2},
		{"A:b", 0}, {"aB:c", 1}, {"1:b", 0}, {"-a:b", 0}, {"a:RED", 2}, {"a:bC", 3}, {"a:b C", 4}, {"a:\tb", 2}, {"a\t:b", 1}, {"\ta:b", 0},
		{"a:!important", 2}, {"a: !important", 3}, {"a!important:b", 1}, {"!important", 0}, {"{a:b}", 0}, {"a:b{", 3}, {"@media a", 0}, {"*", 0},
		{"a:b!importan", 4}, {"a:b !importan", 5}, {"a:b!Important", 4}, {"a:b! important", 4}, {"a:b!", 4}, {"a:b!!important", 4}, {"a:b!/**/important", 4},
		{"a:b!importants", 13}, {"a:b!important-", 13}, {"a:b!important c", 14}, {"a:b!important!important", 13}, {"a:b!important:", 13}, {"a:b!important;;", 14},
	} {
		wantDeclsFaults(t, c.s, api.ErrForm, c.at)
	}
}

// B2: declarations alone end where the text ends, not at a brace.
func TestDeclsEnd(t *testing.T) {
	for _, c := range []struct {
		s  string
		at int
	}{
		{"}", 0}, {" }", 1}, {"color:red}", 9}, {"a:b;}", 4}, {"a:b }c:d", 4}, {"a:b!important}", 13}, {"a:}", 2}, {"a}", 1},
	} {
		wantDeclsFault(t, c.s, api.ErrForm, c.at)
	}
	wantDeclsFault(t, "p{a:b}", api.ErrForm, 1)
	for _, s := range []string{"/*", "a/*", "a:/*", "a:b/*/", "a:b;/* x", "a:b!important/*"} {
		wantDeclsFault(t, s, api.ErrForm, strings.Index(s, "/*"))
	}
}

// B2: Print writes what it is given, whatever it is.
func TestPrint(t *testing.T) {
	for _, c := range []struct {
		l    []api.Decl
		want string
	}{
		{nil, ""}, {[]api.Decl{}, ""},
		{[]api.Decl{decl("color", "red")}, "color: red"},
		{[]api.Decl{strong("color", "red")}, "color: red !important"},
		{[]api.Decl{decl("color", "red"), decl("size", "12")}, "color: red; size: 12"},
		{[]api.Decl{strong("a", "b"), decl("a", "b"), strong("a", "b c")}, "a: b !important; a: b; a: b c !important"},
		{[]api.Decl{{}, {Name: "a", Strong: true}, {Val: "; \x00\xff"}}, ": ; a:  !important; : ; \x00\xff"},
	} {
		if got := sheet.Print(c.l); got != c.want {
			t.Errorf("Print(%v) is %q, not %q", c.l, got, c.want)
		}
	}
	many := make([]api.Decl, 100*api.MaxDecls)
	if got, want := sheet.Print(many), list(": ", "; ", len(many)); got != want {
		t.Errorf("Print of %d is %.40q", len(many), got)
	}
	if got := sheet.Print([]api.Decl{{Name: "a"}, {Name: "b"}}[:1]); got != "a: " {
		t.Errorf("Print looks behind the list: %q", got)
	}
}

// B2: what is printed is read as the same.
func TestPrintIsRead(t *testing.T) {
	const s = "color : red ;size:12!important; edge: 1  2 3/**/4"
	l, _ := sheet.Decls(s)
	const want = "color: red; size: 12 !important; edge: 1 2 3 4"
	if got := sheet.Print(l); got != want {
		t.Errorf("Print is %q, not %q", got, want)
	}
	wantDecls(t, want, l...)
}
