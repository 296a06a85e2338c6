package match_test

import (
	"math"
	"testing"

	"inkwell/api"
)

// C1: a name is held against the whole name.
func TestIsName(t *testing.T) {
	l := []api.Node{node("p", -1), node("pp", -1, "p", "p"), node("P", -1), node("", -1), node("p", 0)}
	wantMeant(t, l, one(name("p")), 0, 4)
	wantMeant(t, l, one(name("pp")), 1)
	wantMeant(t, l, one(name("P")), 2)
	wantMeant(t, l, one(name("")), 3)
	wantMeant(t, l, one(name("*")))
	wantMeant(t, l, one(api.Test{Kind: api.IsName, Name: "p", Val: "x"}), 0, 4)
}

// C1: words of class between blanks: ahead of them, behind them, several of them, and nothing but them.
func TestIsClass(t *testing.T) {
	l := []api.Node{
		node("p", -1, "class", "a"), node("p", -1, "class", "b a"), node("p", -1, "class", " a"), node("p", -1, "class", "a "),
		node("p", -1, "class", "   b   a   c   "), node("p", -1, "class", ""), node("p", -1, "class", " "), node("p", -1, "class", "   "),
		node("p", -1, "class", "ab"), node("p", -1, "class", "a-b ba"), node("a", -1), node("p", -1, "id", "a", "a", "a"), node("p", -1, "class", "A"),
	}
	wantMeant(t, l, one(class("a")), 0, 1, 2, 3, 4)
	wantMeant(t, l, one(class("b")), 1, 4)
	wantMeant(t, l, one(class("c")), 4)
	wantMeant(t, l, one(class("a-b")), 9)
	wantMeant(t, l, one(api.Test{Kind: api.IsClass, Name: "c", Val: "x"}), 4)
	for _, s := range []string{"", " ", "a ", " a", "b a", "b  a", "-", "x"} {
		wantMeant(t, l, one(class(s)))
	}
}

// C1: only the blank parts words; other bytes, whatever they are, belong to them.
func TestIsClassOfEachByte(t *testing.T) {
	for b := range 256 {
		sep := string([]byte{byte(b)})
		l := []api.Node{node("p", -1, "class", "x"+sep+"y")}
		if sep == " " {
			wantMeant(t, l, one(class("x")), 0)
			wantMeant(t, l, one(class("y")), 0)
			wantMeant(t, l, one(class("x y")))
			continue
		}
		wantMeant(t, l, one(class("x")))
		wantMeant(t, l, one(class("y")))
		wantMeant(t, l, one(class("x"+sep+"y")), 0)
	}
}

// C1: an id is all of the attribute's value.
func TestIsID(t *testing.T) {
	l := []api.Node{
		node("p", -1, "id", "q"), node("p", -1, "id", "q r"), node("p", -1, "id", ""), node("p", -1),
		node("q", -1, "class", "q", "q", "q"), node("p", -1, "class", "x", "id", "q"), node("p", -1, "id", " q"),
	}
	wantMeant(t, l, one(id("q")), 0, 5)
	wantMeant(t, l, one(id("q r")), 1)
	wantMeant(t, l, one(id("")), 2)
	wantMeant(t, l, one(id("r")))
	wantMeant(t, l, one(api.Test{Kind: api.IsID, Name: "q", Val: "r"}), 0, 5)
}

// C1: an attribute is there, whatever its value is; or it is of that value.
func TestAttributes(t *testing.T) {
	l := []api.Node{
		node("p", -1, "lang", "en"), node("p", -1, "lang", ""), node("lang", -1), node("p", -1, "x", "lang", "lang", "de"),
		node("p", -1, "class", "lang"), node("p", -1, "", "en"), node("p", -1, "style", "color: red"),
	}
	wantMeant(t, l, one(has("lang")), 0, 1, 3)
	wantMeant(t, l, one(has("")), 5)
	wantMeant(t, l, one(has("en")))
	wantMeant(t, l, one(has("style")), 6)
	wantMeant(t, l, one(api.Test{Kind: api.HasAttr, Name: "lang", Val: "en"}), 0, 1, 3)
	wantMeant(t, l, one(is("lang", "en")), 0)
	wantMeant(t, l, one(is("lang", "de")), 3)
	wantMeant(t, l, one(is("lang", "")), 1)
	wantMeant(t, l, one(is("lang", "e")))
	wantMeant(t, l, one(is("zz", "")))
	wantMeant(t, l, one(is("", "en")), 5)
}

// C1: of several attributes of one name, which no page has, the first one counts, as Get has it.
func TestAttributesOfOneName(t *testing.T) {
	l := []api.Node{node("p", -1, "class", "a", "id", "q", "x", "1", "class", "b", "id", "r", "x", "2")}
	for _, s := range []api.Test{class("a"), id("q"), is("x", "1")} {
		wantMeant(t, l, one(s), 0)
	}
	for _, s := range []api.Test{class("b"), id("r"), is("x", "2")} {
		wantMeant(t, l, one(s))
	}
}

// C1: the first one is its parent's first element, or the page's.
func TestIsFirst(t *testing.T) {
	l := readPage(t, "x<p>x<b></b><i><u></u><u></u></i></p><p><b></b></p><style></style>")
	wantMeant(t, l, one(first()), 0, 1, 3, 6)
	wantMeant(t, l, one(api.Test{Kind: api.IsFirst, Name: "x", Val: "y"}), 0, 1, 3, 6)
	odd := []api.Node{node("p", 7), node("p", -5), node("p", 7), node("p", -1), node("p", -5), node("p", 5)}
	wantMeant(t, odd, one(first()), 0, 1, 3, 5)
}

// C1: a kind that has no name means nothing, and nothing beside it helps.
func TestUnknownKinds(t *testing.T) {
	l := []api.Node{node("p", -1, "class", "p", "id", "p", "p", "p")}
	for _, kind := range []int{math.MinInt, -1, 0, 7, 8, math.MaxInt} {
		none := api.Test{Kind: kind, Name: "p", Val: "p"}
		wantMeant(t, l, one(none))
		wantMeant(t, l, one(name("p"), none))
		wantMeant(t, l, one(none, name("p")))
	}
}

// C1: a part asks all that its tests ask; without a test it asks nothing.
func TestParts(t *testing.T) {
	l := readPage(t, `<p class="a" id="q"></p><p class="a"></p><b class="a" id="q"></b><p class="b" id="q"></p>`)
	wantMeant(t, l, readSelector(t, "p.a#q"), 0)
	wantMeant(t, l, readSelector(t, "p.a"), 0, 1)
	wantMeant(t, l, readSelector(t, ".a#q"), 0, 2)
	wantMeant(t, l, readSelector(t, "p#q"), 0, 3)
	wantMeant(t, l, readSelector(t, ".a.b"))
	wantMeant(t, l, readSelector(t, "*"), 0, 1, 2, 3)
	wantMeant(t, l, api.Selector{{}}, 0, 1, 2, 3)
	wantMeant(t, l, api.Selector{{Tests: []api.Test{}}}, 0, 1, 2, 3)
	wantMeant(t, l, one(name("p"), name("b")))
	wantMeant(t, l, one(name("p"), name("p"), class("b")), 3)
}
