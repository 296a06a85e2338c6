package fold_test

import (
	"strings"
	"testing"

	"inkwell/api"
)

// F3: ordinary pages, with one sheet, with several and with none.
func TestFold(t *testing.T) {
	for _, c := range []struct{ page, want string }{
		{"", ""},
		{"x\n y", "x\n y"},
		{"<p>x</p>", "<p>x</p>"},
		{st("p{color:red}") + "<p>x</p>", st(" ") + `<p style="color: red">x</p>`},
		{"<p>x</p>" + st("p{color:red}"), `<p style="color: red">x</p>` + st(" ")},
		{"<p>x" + st("p{color:red}") + "</p>", `<p style="color: red">x` + st(" ") + "</p>"},
		{`<p class="a">x<b>y</b></p>` + st("p{color:red}.a{size:9}b,i{size:1}"), `<p style="color: red; size: 9" class="a">x<b style="size: 1">y</b></p>` + st("   ")},
		{st("p{a:b}") + st("p{a:c}") + "<p>x</p>" + st("p{c:d}"), st(" ") + st(" ") + `<p style="a: c; c: d">x</p>` + st(" ")},
		{st("p{a:c !important}") + "<p>x</p>" + st("p{a:b}"), st(" ") + `<p style="a: c !important">x</p>` + st(" ")},
		{st("#q{a:b}p{a:c}") + `<p id="q">x</p><p>y</p>`, st("  ") + `<p style="a: b" id="q">x</p><p style="a: c">y</p>`},
		{st("p{edge:1 2}p{edge-left:7}") + "<p></p>", st("  ") + `<p style="edge-bottom: 1; edge-left: 7; edge-right: 2; edge-top: 1"></p>`},
		{st("*{a:b}") + "<p>x</p>", `<style style="a: b"> </style><p style="a: b">x</p>`},
		{st("b + i{a:b}:first{c:d}") + "<p><b></b><i></i></p>", `<style style="c: d">  </style><p><b style="c: d"></b><i style="a: b"></i></p>`},
	} {
		wantFold(t, c.page, c.want)
	}
}

// F3: a page without sheets, and one with sheets without rules, is left as it is, but for its styles.
func TestFoldNoRules(t *testing.T) {
	for _, s := range []string{st(""), st(" \n/* p{a:b} */"), "<p>" + st("") + "</p>" + st("@media w{}"), `<p id="q">x<!-- <p style="b:c"> --></p>`} {
		wantFold(t, s, s)
	}
	wantFold(t, st("")+`<p style="b:c;a:b">x</p>`, st("")+`<p style="a: b; b: c">x</p>`)
	wantFold(t, `<p style="edge:1">x</p>`, `<p style="edge-bottom: 1; edge-left: 1; edge-right: 1; edge-top: 1">x</p>`)
}

// F3: a rule that goes is one blank; all else of a sheet is as it was.
func TestBlank(t *testing.T) {
	for _, c := range []struct{ sheet, want string }{
		{"p{}", " "},
		{"p{}p{}", "  "},
		{" p { a : b } \n p{}", "   \n  "},
		{"/* n */p,\nb /* m */{/* o */}/* r */", "/* n */ /* r */"},
		{"@media w{b{a:c}}u{a:b}@media v { }", "@media w{b{a:c}} @media v { }"},
		{"u{a:b}/*\xff*/u > u{a:b}@media w{b{a:b} }", " /*\xff*/ @media w{b{a:b} }"},
	} {
		wantFold(t, st(c.sheet), st(c.want))
	}
}

// F3: what must stay is not folded, and stays as it was.
func TestFoldStays(t *testing.T) {
	media := "@media w{p{color:blue}}"
	for _, c := range []struct{ page, want string }{
		{st("p{color:red}"+media) + "<p>x</p>", st("p{color:red}"+media) + "<p>x</p>"},
		{st("p{size:9}"+media) + "<p>x</p>", st(" "+media) + `<p style="size: 9">x</p>`},
		{st("b{color:red}"+media) + "<p><b>x</b></p>", st(" "+media) + `<p><b style="color: red">x</b></p>`},
		{st("p{color:red;size:9}p{size:8;font:f}i{font:g}"+media) + "<p>x<i>y</i></p>", st("p{color:red;size:9}p{size:8;font:f} "+media) + `<p>x<i style="font: g">y</i></p>`},
		{st("p{color:red}"+media) + `<p style="color:green">x</p>`, st("p{color:red}"+media) + `<p style="color: green">x</p>`},
		{st(media) + "<p>x</p>", st(media) + "<p>x</p>"},
		{st("u{color:red}"+media) + "<p>x</p>", st(" "+media) + "<p>x</p>"},
	} {
		wantFold(t, c.page, c.want)
	}
}

// F3: a new style that is empty, the old one, or another one, with the attribute there and not there.
func TestNewStyle(t *testing.T) {
	for _, c := range []struct{ sheet, tag, want string }{
		{"", `<p>`, `<p>`},
		{"", `<p id="q">`, `<p id="q">`},
		{"", `<p style="">`, `<p style="">`},
		{"", `<p style=" ">`, `<p>`},
		{"", `<p style="/* n */" id="q">`, `<p id="q">`},
		{"", `<p style="a: b">`, `<p style="a: b">`},
		{"", `<p style="a:b">`, `<p style="a: b">`},
		{"", `<p style="a: b;">`, `<p style="a: b">`},
		{"", `<p style="a: b; a: c">`, `<p style="a: c">`},
		{"p{a:b}", `<p>`, `<p style="a: b">`},
		{"p{a:b}", `<p id="q">`, `<p style="a: b" id="q">`},
		{"p{a:b}", `<p style="">`, `<p style="a: b">`},
		{"p{a:b}", `<p style="a: b">`, `<p style="a: b">`},
		{"p{a:b}", `<p style="a:c">`, `<p style="a: c">`},
		{"p{a:b !important}", `<p style="a: c">`, `<p style="a: b !important">`},
		{"p{a:b !important}", `<p style="a: c!important">`, `<p style="a: c !important">`},
		{"p{c:d}", `<p style="a: b">`, `<p style="a: b; c: d">`},
		{"p{}", `<p style="a: b">`, `<p style="a: b">`},
		{"p{}", `<p>`, `<p>`},
	} {
		blank := strings.Repeat(" ", strings.Count(c.sheet, "}"))
		wantFold(t, st(c.sheet)+c.tag+"x</p>", st(blank)+c.want+"x</p>")
	}
}

// F3: the attribute is changed, and taken away, where it stands: first, in the middle and last.
func TestStylePlace(t *testing.T) {
	for _, c := range []struct{ ahead, behind string }{
		{"", ""},
		{"", ` id="q" class="a"`},
		{` id="q"`, ` class="a"`},
		{` id="q" class="a"`, ""},
	} {
		tag := func(style string) string { return "<p" + c.ahead + style + c.behind + ">x</p>" }
		wantFold(t, tag(` style="b:c;a:b"`), tag(` style="a: b; b: c"`))
		wantFold(t, tag(` style="a: b"`), tag(` style="a: b"`))
		wantFold(t, tag(` style=" "`), tag(""))
		wantFold(t, tag(` style=""`), tag(` style=""`))
		wantFold(t, tag(` style="b:c"`)+st("p{a:b}"), tag(` style="a: b; b: c"`)+st(" "))
		wantFold(t, tag("")+st("p{a:b}"), `<p style="a: b"`+c.ahead+c.behind+">x</p>"+st(" "))
	}
}

// F3: just as many properties as may be, and one more.
func TestMostProperties(t *testing.T) {
	full := `<p style="a0: b; a1: b; a10: b; a11: b; a12: b; a13: b; a14: b; a15: b; a16: b; a17: b; a18: b; a19: b; a2: b; a3: b; a4: b; a5: b; a6: b; a7: b; a8: b; a9: b">x</p>`
	wantFold(t, st("p{"+parted(0, 20)+"}")+"<p>x</p>", st(" ")+full)
	wantFold(t, st("p{"+parted(0, 10)+"}p{"+parted(10, 20)+"}")+"<p>x</p>", st("  ")+full)
	wantFold(t, st("p{"+parted(0, 10)+"}p{"+parted(5, 20)+"}")+"<p>x</p>", st("  ")+full)
	wantFold(t, st("p{"+parted(0, 10)+"}")+`<p style="`+parted(10, 20)+`">x</p>`, st(" ")+full)
	wantFold(t, full, full)

	for _, c := range []struct{ ahead, element string }{
		{st("p{" + parted(0, 20) + "}p{a20:b}"), "<p>x</p>"},
		{st("p{" + parted(0, 20) + "}"), `<p style="a20:b">x</p>`},
		{st("p{a20:b}"), `<p id="q" style="` + parted(0, 20) + `">x</p>`},
		{st("p{" + parted(0, 17) + "edge:1}"), `<p class="a">x</p>`},
		{"", `<p style="` + parted(0, 17) + `edge:1">x</p>`},
		{"<b>x</b>" + st("p{"+parted(0, 20)+"}p,b{a20:b}"), "<p>x</p><p>x</p>"},
	} {
		read(t, c.ahead+c.element)
		wantNoFold(t, c.ahead+c.element, api.ErrMany, len(c.ahead)+2)
	}
	// Nobody is meant by both; and what must stay is not counted.
	folded(t, st("p{"+parted(0, 20)+"}b{a20:b}")+"<p>x</p><b>y</b>")
	folded(t, st("p{"+parted(0, 20)+"}p{a20:b}@media w{p{a20:c}}")+"<p>x</p>")
}

// F3: just as many attributes as may be, and one more.
func TestMostAttributes(t *testing.T) {
	rule := "p{a:b}"
	tag := func(attrs string) string { return "<p" + attrs + ">x</p>" }
	wantFold(t, st(rule)+tag(attrs(7)), st(" ")+tag(` style="a: b"`+attrs(7)))
	wantFold(t, st(rule)+tag(attrs(7)+` style=""`), st(" ")+tag(attrs(7)+` style="a: b"`))
	wantNoFold(t, st(rule)+tag(attrs(8)), api.ErrMany, len(st(rule))+2)
	wantNoFold(t, st(rule)+"<p>y</p>"+tag(attrs(8))+tag(attrs(8)), api.ErrMany, len(st(rule))+10)
	// No room is needed where there is no new style.
	wantFold(t, tag(attrs(8)), tag(attrs(8)))
	wantFold(t, st("b{a:b}p{}")+tag(attrs(8)), st("  ")+tag(attrs(8)))
	wantFold(t, st("p{a:b}@media w{p{a:c}}")+tag(attrs(8)), st("p{a:b}@media w{p{a:c}}")+tag(attrs(8)))
	// The first element that has a fault tells it, of whichever kind.
	many := st("p{"+parted(0, 20)+"}b{a0:b}p{a20:b}") + "<i>x</i>"
	wantNoFold(t, many+"<b"+attrs(8)+"></b><p></p>", api.ErrMany, len(many)+2)
	wantNoFold(t, many+"<p></p><b"+attrs(8)+"></b>", api.ErrMany, len(many)+2)
	wantNoFold(t, "<i"+attrs(8)+"></i><i><style"+attrs(8)+">*{a:b}</style></i>", api.ErrMany, 2)
}

// F3: just as many bytes as may be, and one more; what goes is taken off first.
func TestMostBytes(t *testing.T) {
	fill := func(s string, n int) string { return s + strings.Repeat("x", n-len(s)) }
	page, want := st("p{a:b}")+"<p></p>", st(" ")+`<p style="a: b"></p>`
	more := len(want) - len(page)
	wantFold(t, fill(page, api.MaxPage-more), fill(want, api.MaxPage))
	wantNoFold(t, fill(page, api.MaxPage-more+1), api.ErrMuch, 0)
	wantNoFold(t, fill(page, api.MaxPage), api.ErrMuch, 0)
	wantFault(t, fill(page, api.MaxPage+1), api.ErrMuch, 0)

	less, short := st("u{a:b}")+"<p></p>", st(" ")+"<p></p>"
	wantFold(t, fill(less, api.MaxPage), fill(short, api.MaxPage-5))
	plain := fill("<p></p>", api.MaxPage)
	wantFold(t, plain, plain)

	// Too many at an element is told ahead of too much in all.
	full := fill(st("p{a:b}")+"<p></p><p"+attrs(8)+"></p>", api.MaxPage)
	wantNoFold(t, full, api.ErrMany, len(st("p{a:b}"))+9)
	long := st("p{a:"+strings.Repeat("b", api.MaxVal)+"}") + strings.Repeat("<p></p>", 90)
	read(t, long)
	wantNoFold(t, long, api.ErrMuch, 0)
}

// F3: whatever Read refuses is not folded.
func TestFoldReads(t *testing.T) {
	wantFault(t, st("p{")+"<p></p>", api.ErrForm, 9)
	wantFault(t, st("p{a:b}")+"<p>", api.ErrForm, 24)
	wantFault(t, st("p{edge:1 2 3 4 5}")+"<p></p>", api.ErrMany, 7)
	wantFault(t, `<p style="a"></p>`, api.ErrForm, 2)
}
