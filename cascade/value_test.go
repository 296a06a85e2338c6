package cascade_test

import (
	"strings"
	"testing"

	"inkwell/api"
	"inkwell/cascade"
)

// E2: what wins there, else the parent's, if it is inherited, else the initial value.
func TestValue(t *testing.T) {
	l := readPage(t, `<p style="color:red;width:5;edge:1 2">x<b>y<i style="size:12 !important">z</i></b></p><u>v</u>`)
	rules := readRules(t, "p{font:thin}i{width:6}b{size:11 !important}")
	rules = append(rules, readRules(t, "@media wide{b{color:blue}}")...)
	for _, c := range []struct{ name, p, b, i, u string }{
		{"color", "red", "red", "red", "black"},
		{"font", "thin", "thin", "thin", "plain"},
		{"size", "10", "11", "12", "10"},
		{"width", "5", "none", "6", "none"},
		{"edge-top", "1", "0", "0", "0"},
		{"edge-left", "2", "0", "0", "0"},
		{"edge", "none", "none", "none", "none"},
		{"", "none", "none", "none", "none"},
		{"Color", "none", "none", "none", "none"},
	} {
		for k, want := range []string{c.p, c.b, c.i, c.u} {
			wantValue(t, l, k, rules, nil, c.name, want)
			if c.name == "color" && 0 < k && k < 3 {
				want = "blue"
			}
			wantValue(t, l, k, rules, []string{"wide"}, c.name, want)
		}
	}
}

// E2: the nearest element above that declares it tells an inherited property, however it is declared above that.
func TestNearest(t *testing.T) {
	l := readPage(t, `<p><b><i><u>x</u></i></b></p>`)
	for _, c := range []struct{ rules, want string }{
		{"p{color:p}b{color:b}i{color:i}u{color:u}", "u"},
		{"p{color:p}b{color:b}i{color:i}", "i"},
		{"p{color:p !important}b{color:b}", "b"},
		{"#q,p{color:p !important}", "p"},
		{"p{width:p}b{size:1}", "black"},
		{"b{color:inherit}", "inherit"},
	} {
		wantValue(t, l, 3, readRules(t, c.rules), nil, "color", c.want)
	}
}

// E2: a property that is declared with an empty value is declared.
func TestEmptyValue(t *testing.T) {
	l := []api.Node{node("p", -1, "color:red"), node("b", 0, "")}
	wantValue(t, l, 1, nil, nil, "color", "red")
	wantValue(t, l, 1, []api.Rule{of("b", decl("color", ""))}, nil, "color", "")
	wantValue(t, l, 1, []api.Rule{of("b", decl("", "x"))}, nil, "", "x")
	wantValue(t, l, 1, []api.Rule{of("b", decl("edge", "3"))}, nil, "edge", "none")
}

// E2: a parent that is below 0, at the element or behind it is none.
func TestParents(t *testing.T) {
	l := []api.Node{node("p", -1, "color:zero;width:1"), node("p", -1, "color:one"), node("b", 0, ""), node("i", 2, "color:three"), node("i", 0, "color:four")}
	for _, c := range []struct {
		parent int
		want   string
	}{
		{0, "zero"}, {1, "one"}, {2, "black"}, {3, "black"}, {4, "black"}, {5, "black"}, {6, "black"},
		{-1, "black"}, {-7, "black"}, {-1 << 63, "black"}, {1<<63 - 1, "black"},
	} {
		l[2].Parent = c.parent
		wantValue(t, l, 2, nil, nil, "color", c.want)
		wantValue(t, l, 2, nil, nil, "width", "none")
	}
}

// E2: two elements above one another, each of them the other's parent, or its own: it ends.
func TestRings(t *testing.T) {
	l := []api.Node{{Name: "p", Parent: 1}, {Name: "p", Parent: 0}, {Name: "p", Parent: 2}}
	for k := range l {
		wantValue(t, l, k, nil, nil, "color", "black")
	}
	wantValue(t, l, 1, []api.Rule{of("p", decl("size", "1"))}, nil, "size", "1")
}

// E2: an element above has an error only for who asks it.
func TestErrorAbove(t *testing.T) {
	l := readPage(t, `<p style="oops">x<b style="size:3">y<i>z</i></b></p>`)
	rules := readRules(t, "i{font:f}p{edge:1 2 3 4 5}")
	want := func(name, val string, wantErr api.Errno) {
		t.Helper()
		for _, k := range []int{1, 2} {
			if name == "font" && k == 1 {
				continue
			}
			if got, err := cascade.Value(l, k, rules, nil, name); got != val || err != wantErr {
				t.Errorf("%s of %d is %q, %d, not %q, %d", name, k, got, err, val, wantErr)
			}
		}
	}
	want("color", "", api.ErrMany)
	want("size", "3", api.OK)
	want("font", "f", api.OK)
	want("width", "none", api.OK)
	want("edge-top", "0", api.OK)
	rules = rules[:1]
	want("color", "", api.ErrForm)
	wantErr(t, l, 0, rules, nil, api.ErrForm)
}

// Z1: as many elements above one another as may be nested.
func TestDeep(t *testing.T) {
	l := make([]api.Node, 1<<16)
	for k := range l {
		l[k] = api.Node{Name: "b", Parent: k - 1}
	}
	l[0].Name = "p"
	rules := []api.Rule{of("p", decl("color", "red"))}
	wantValue(t, l, len(l)-1, rules, nil, "color", "red")
	wantValue(t, l, len(l)-1, rules, nil, "size", "10")
}

// Z1: many rules, media, declarations and long texts.
func TestMuch(t *testing.T) {
	const many = 20_000
	var rules []api.Rule
	var media []string
	long := strings.Repeat("x", many)
	for i := range many {
		r := of("p", decl("color", "red"), decl(long[:i%100], long))
		if i%20 == 0 {
			r.Media = long[:i+1]
			media = append(media, r.Media)
		}
		rules = append(rules, r)
	}
	l := []api.Node{{Name: "p"}}
	look, err := cascade.Declared(l, 0, rules, media)
	if err != api.OK || len(look) != 101 {
		t.Errorf("%d properties are declared, %d", len(look), err)
	}
	wantValue(t, l, 0, rules, media, long[:99], long)
}
