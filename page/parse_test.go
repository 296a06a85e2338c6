package page_test

import (
	"reflect"
	"strconv"
	"strings"
	"testing"

	"inkwell/api"
	"inkwell/page"
)

// element is a node without attributes that is no style.
func element(name string, parent, nameEnd int) api.Node {
	return api.Node{Name: name, Parent: parent, NameEnd: nameEnd}
}

func style(parent, nameEnd, from, to int) api.Node {
	return api.Node{Name: "style", Parent: parent, NameEnd: nameEnd, Inner: api.Span{From: from, To: to}}
}

func attr(name, val string, from, to int) api.Attr {
	return api.Attr{Name: name, Val: val, At: api.Span{From: from, To: to}}
}

func with(n api.Node, l ...api.Attr) api.Node {
	n.Attrs = l
	return n
}

// sameNodes: nil and empty are the same (Z3).
func sameNodes(a, b []api.Node) bool {
	if len(a) != len(b) {
		return false
	}
	for i := range a {
		x, y := a[i], b[i]
		if len(x.Attrs) == 0 && len(y.Attrs) == 0 {
			x.Attrs, y.Attrs = nil, nil
		}
		if !reflect.DeepEqual(x, y) {
			return false
		}
	}
	return true
}

func wantNodes(t *testing.T, s string, want ...api.Node) {
	t.Helper()
	got, f := page.Parse(s)
	if f != (api.Fault{}) || !sameNodes(got, want) {
		t.Errorf("Parse(%.80q) is %v %v, not %v", s, got, f, want)
	}
}

// wantFault: beside a fault there is nothing else (Z4).
func wantFault(t *testing.T, s string, err api.Errno, at int) {
	t.Helper()
	got, f := page.Parse(s)
	if f != (api.Fault{Err: err, At: at}) || len(got) != 0 {
		t.Errorf("Parse(%.80q) is %v %v, not the fault {%d %d}", s, got, f, err, at)
	}
}

// attrs is that many attributes of other names.
func attrs(n int) string {
	var b strings.Builder
	for i := range n {
		b.WriteString(" a" + strconv.Itoa(i) + `=""`)
	}
	return b.String()
}

// A1, A2: pages, and their elements.
func TestParseElements(t *testing.T) {
	wantNodes(t, "")
	wantNodes(t, "x & y > z \"'=/\n")
	wantNodes(t, "<p></p>", element("p", -1, 2))
	wantNodes(t, "x<p>y</p>z", element("p", -1, 3))
	wantNodes(t, "<p>x<b>y</b><i>z</i></p><p></p>",
		element("p", -1, 2), element("b", 0, 6), element("i", 0, 14), element("p", -1, 26))
	wantNodes(t, "<a><b><c></c></b><d></d></a><e></e>",
		element("a", -1, 2), element("b", 0, 5), element("c", 1, 8), element("d", 0, 19), element("e", -1, 30))
	wantNodes(t, "<a><a></a></a>", element("a", -1, 2), element("a", 0, 5))
	wantNodes(t, "<h1-></h1->", element("h1-", -1, 4))
}

// A1, A2: attributes, and where they stand.
func TestParseAttributes(t *testing.T) {
	wantNodes(t, `<p class="a b" id="q">x</p>`,
		with(element("p", -1, 2), attr("class", "a b", 2, 14), attr("id", "q", 14, 21)))
	wantNodes(t, `<p a=""></p>`, with(element("p", -1, 2), attr("a", "", 2, 7)))
	wantNodes(t, `<p a=" ='>/~!"></p>`, with(element("p", -1, 2), attr("a", " ='>/~!", 2, 14)))
	wantNodes(t, `<p style="color: red"><style a="b"></style></p>`,
		with(element("p", -1, 2), attr("style", "color: red", 2, 21)),
		with(style(0, 28, 35, 35), attr("a", "b", 28, 34)))
	// A name that is another element's attribute's, or its element's own, is not taken.
	wantNodes(t, `<a a="1"></a><a a="2"></a>`,
		with(element("a", -1, 2), attr("a", "1", 2, 8)), with(element("a", -1, 15), attr("a", "2", 15, 21)))
}

// A1: notes are anything up to the first end.
func TestParseNotes(t *testing.T) {
	wantNodes(t, "<!---->")
	wantNodes(t, "<!-- <b> </p> \x00\xff\t -->x")
	wantNodes(t, "<!-----><p></p>", element("p", -1, 10))
	wantNodes(t, "<!--<!----><p></p>", element("p", -1, 13))
	wantNodes(t, "<p><!--</p>--></p>", element("p", -1, 2))
	wantNodes(t, "<!--a-->-->")
	wantFault(t, "<!--a--><!--b", api.ErrForm, 13)
	for _, s := range []string{"<!--", "<!---", "<!-->", "<!--->", "<!-- x", "<p><!-- </p>", "<!--\x01"} {
		wantFault(t, s, api.ErrForm, len(s))
	}
	for _, s := range []string{"<!", "<!-", "<!->", "<!x>", "<!- - -->"} {
		wantFault(t, s, api.ErrForm, 1)
	}
}

// A1, A2: a style has bytes, not items.
func TestParseStyles(t *testing.T) {
	wantNodes(t, "<style></style>", style(-1, 6, 7, 7))
	wantNodes(t, "<style>p{a:<b>}</style>x", style(-1, 6, 7, 15))
	wantNodes(t, "<style></b></style>", style(-1, 6, 7, 11))
	wantNodes(t, "<style><!-- \x00\xff\t</style>-->", style(-1, 6, 7, 15))
	wantNodes(t, "<style></style </stylex></style>", style(-1, 6, 7, 24))
	wantNodes(t, "<p><style>x</style><b></b></p>", element("p", -1, 2), style(0, 9, 10, 11), element("b", 0, 21))
	wantNodes(t, "<style><style></style>", style(-1, 6, 7, 14))
	wantNodes(t, "<styles><b></b></styles>", element("styles", -1, 7), element("b", 0, 10))
	for _, s := range []string{"<style>", "<style></style", "<style></style >", "<style>\x00</STYLE>", "<p><style></p>"} {
		wantFault(t, s, api.ErrForm, len(s))
	}
	wantFault(t, "<style></style></style>", api.ErrForm, 15)
	wantFault(t, "<!-- --><style", api.ErrForm, 14)
}

// A1: every byte, as text, and in a value.
func TestParseEachByte(t *testing.T) {
	for b := range 256 {
		one := string([]byte{byte(b)})
		plain := b >= 32 && b <= 126
		if s := "x" + one + "x"; b == '\n' || plain && b != '<' {
			wantNodes(t, s)
		} else if b == '<' {
			wantFault(t, s, api.ErrForm, 3)
		} else {
			wantFault(t, s, api.ErrForm, 1)
		}
		if s := `<p a="x` + one + `"></p>`; plain && !strings.Contains(`"<&`, one) {
			wantNodes(t, s, with(element("p", -1, 2), attr("a", "x"+one, 2, 9)))
		} else if b == '"' {
			wantFault(t, s, api.ErrForm, 8)
		} else {
			wantFault(t, s, api.ErrForm, 7)
		}
	}
}

// A2: where something is not as it must be.
func TestParseForm(t *testing.T) {
	for _, c := range []struct {
		s  string
		at int
	}{
		{"<", 1}, {"x<", 2}, {"< p></p>", 1}, {"<P></P>", 1}, {"<1></1>", 1}, {"<-a></-a>", 1}, {"<>", 1},
		{"<p", 2}, {"<p/>", 2}, {"<pB>", 2}, {"<p\n>", 2}, {"<p_>", 2},
		{"<p ", 3}, {"<p >", 3}, {"<p  a=\"\">", 3}, {"<p A=\"\">", 3}, {"<p =\"\">", 3}, {"<p \"\">", 3},
		{"<p a", 4}, {"<p a>", 4}, {"<p a=", 4}, {"<p a=x>", 4}, {"<p a='x'>", 4}, {"<p a =\"\">", 4}, {"<p a= \"\">", 4},
		{"<p a=\"", 6}, {"<p a=\"x", 7}, {"<p a=\"x>", 8}, {"<p a=\"x<", 7}, {"<p a=\"x\n\"", 7},
		{"<p a=\"1\"", 8}, {"<p a=\"1\"b=\"2\">", 8}, {"<p a=\"1\"\nb=\"2\">", 8}, {"<p a=\"1\" >", 9},
		{"<p>", 3}, {"<p>x", 4}, {"<p>x\t", 4}, {"<p><", 4},
		{"</p>", 0}, {"</", 0}, {"x</p>", 1}, {"<p></p></p>", 7},
		{"<p></", 3}, {"<p></p", 3}, {"<p></b>", 3}, {"<p></pp>", 3}, {"<p></p >", 3}, {"<p></P>", 3}, {"<pp></p>", 4},
		{"<a><b></a></b>", 6}, {"<a><b></b>", 10}, {"<a></" + strings.Repeat("a", api.MaxName+1) + ">", 3},
	} {
		wantFault(t, c.s, api.ErrForm, c.at)
	}
}

// A2: MaxPage, at the bound and past it.
func TestParseMaxPage(t *testing.T) {
	wantNodes(t, strings.Repeat("x", api.MaxPage))
	wantNodes(t, "<p>"+strings.Repeat("x", api.MaxPage-7)+"</p>", element("p", -1, 2))
	wantFault(t, strings.Repeat("x", api.MaxPage-1)+"\t", api.ErrForm, api.MaxPage-1)
	wantFault(t, strings.Repeat("x", api.MaxPage+1), api.ErrMuch, 0)
	wantFault(t, "\t"+strings.Repeat("x", api.MaxPage), api.ErrMuch, 0)
	wantFault(t, strings.Repeat("<p>", api.MaxPage), api.ErrMuch, 0)
}

// A2: MaxName, at the bound and past it; only first tags and attributes are told by ErrName.
func TestParseMaxName(t *testing.T) {
	name := strings.Repeat("n", api.MaxName)
	wantNodes(t, "<"+name+"></"+name+">", element(name, -1, 1+api.MaxName))
	wantNodes(t, "<p "+name+`=""></p>`, with(element("p", -1, 2), attr(name, "", 2, 6+api.MaxName)))
	wantFault(t, "x<"+name+"n></"+name+"n>", api.ErrName, 2)
	wantFault(t, "<p "+name+`n=""></p>`, api.ErrName, 3)
	wantFault(t, "<"+name+"n", api.ErrName, 1)
	wantFault(t, "<"+name+"n/>", api.ErrName, 1)
	wantFault(t, "<p "+name+"n", api.ErrName, 3)
	wantFault(t, "<p>\t<"+name+"n>", api.ErrForm, 3)
	wantFault(t, "<p></"+name+"n>", api.ErrForm, 3)
	wantFault(t, "<"+name+"></"+name+"n>", api.ErrForm, 2+api.MaxName)
}

// A2: a name that the element has already.
func TestParseTakenName(t *testing.T) {
	wantFault(t, `<p id="" id=""></p>`, api.ErrName, 9)
	wantFault(t, `<p id="" a="" id`, api.ErrName, 14)
	wantFault(t, `<p a="" ab="" a="">`, api.ErrName, 14)
	wantFault(t, `<p id="'" id=''>`, api.ErrName, 10)
	wantFault(t, `<style a="" a=""></style>`, api.ErrName, 12)
	wantNodes(t, `<p a="" aa=""></p>`, with(element("p", -1, 2), attr("a", "", 2, 7), attr("aa", "", 7, 13)))
}

// A2: MaxAttrs, at the bound and past it; too many is told ahead of a name that is too long, or taken.
func TestParseMaxAttrs(t *testing.T) {
	full := "<p" + attrs(api.MaxAttrs)
	l, f := page.Parse(full + "></p>")
	if f != (api.Fault{}) || len(l) != 1 || len(l[0].Attrs) != api.MaxAttrs {
		t.Errorf("Parse of %d attributes is %v %v", api.MaxAttrs, l, f)
	}
	at := len(full) + 1
	wantFault(t, "<p"+attrs(api.MaxAttrs+1)+"></p>", api.ErrMany, at)
	wantFault(t, full+" a0=\"\"></p>", api.ErrMany, at)
	wantFault(t, full+" "+strings.Repeat("n", api.MaxName+1)+"=\"\"></p>", api.ErrMany, at)
	wantFault(t, full+" b", api.ErrMany, at)
	wantFault(t, full+" ></p>", api.ErrForm, at)
	wantFault(t, full+" B=\"\"></p>", api.ErrForm, at)
	wantFault(t, full+"/>", api.ErrForm, at-1)
	wantFault(t, "<p"+attrs(api.MaxAttrs-1)+" a0=\"\" b=\"\"></p>", api.ErrName, at-6)
	wantFault(t, "<style"+attrs(api.MaxAttrs+1)+"></style>", api.ErrMany, at+4)
}

// A2: MaxDeep, at the bound and past it.
func TestParseMaxDeep(t *testing.T) {
	open, shut := strings.Repeat("<p>", api.MaxDeep), strings.Repeat("</p>", api.MaxDeep)
	var want []api.Node
	for i := range api.MaxDeep {
		want = append(want, element("p", i-1, 3*i+2))
	}
	wantNodes(t, open+shut, want...)
	wantNodes(t, open+"x<!-- <b> -->"+shut, want...)
	wantNodes(t, open+shut+"<p></p>", append(want, element("p", -1, len(open+shut)+2))...)
	at := len(open)
	wantFault(t, open+"<p></p>"+shut, api.ErrMuch, at)
	wantFault(t, open+"x<style></style>"+shut, api.ErrMuch, at+1)
	wantFault(t, open+"<", api.ErrMuch, at)
	wantFault(t, open+"<"+strings.Repeat("n", api.MaxName+1)+">", api.ErrMuch, at)
	wantFault(t, open+"\t<p></p>"+shut, api.ErrForm, at)
	wantFault(t, open+"</p><p><p></p>"+shut, api.ErrMuch, at+7)
}

// A2: MaxNodes, at the bound and past it.
func TestParseMaxNodes(t *testing.T) {
	const one = "<p></p>"
	full := strings.Repeat(one, api.MaxNodes)
	var want []api.Node
	for i := range api.MaxNodes {
		want = append(want, element("p", -1, 7*i+2))
	}
	wantNodes(t, full, want...)
	wantNodes(t, full+"x<!-- <p></p> -->", want...)
	wantFault(t, full+one, api.ErrMuch, len(full))
	wantFault(t, full+"xy<style></style>", api.ErrMuch, len(full)+2)
	wantFault(t, full+"<", api.ErrMuch, len(full))
	wantFault(t, full+"</p>", api.ErrForm, len(full))
	wantFault(t, "<a>"+full+"</a>", api.ErrMuch, 3+len(full)-len(one))
}
