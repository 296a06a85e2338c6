package props_test

import (
	"strings"
	"testing"

	"inkwell/api"
	"inkwell/props"
)

// D1: any other property than edge is itself, whatever its value is.
func TestExpandOfOthers(t *testing.T) {
	names := []string{
		"color", "font", "size", "width", "edge-top", "edge-right", "edge-bottom", "edge-left",
		"", " ", "edg", "edge-", "edges", "edge ", " edge", "EDGE", "Edge", "edge-top-left", "edge\x00", "\xff", "ä",
	}
	vals := []string{"", " ", "1", "1 2", "1 2 3 4", "1 2 3 4 5", "  1   2  ", "\t\n", "\xff\x00", strings.Repeat("a ", 1000)}
	for _, name := range names {
		for _, val := range vals {
			wantExpanded(t, decl(name, val), []api.Decl{decl(name, val)}, api.OK)
			wantExpanded(t, strong(name, val), []api.Decl{strong(name, val)}, api.OK)
		}
	}
}

// D1: one to four values of an edge, and what a side has that is given none.
func TestExpandOfEdge(t *testing.T) {
	for _, c := range []struct{ val, top, right, bottom, left string }{
		{"1", "1", "1", "1", "1"},
		{"1 2", "1", "2", "1", "2"},
		{"1 2 3", "1", "2", "3", "2"},
		{"1 2 3 4", "1", "2", "3", "4"},
		{"10px auto 5% -3", "10px", "auto", "5%", "-3"},
		{"0 0 0 1", "0", "0", "0", "1"},
		{"edge", "edge", "edge", "edge", "edge"},
		{strings.Repeat("a", 5000) + " b", strings.Repeat("a", 5000), "b", strings.Repeat("a", 5000), "b"},
	} {
		wantExpanded(t, decl("edge", c.val), four(c.top, c.right, c.bottom, c.left, false), api.OK)
		wantExpanded(t, strong("edge", c.val), four(c.top, c.right, c.bottom, c.left, true), api.OK)
	}
}

// D1: each blank cuts, so that there are values without a byte; a value that is given, but empty, is not taken from elsewhere.
func TestExpandOfBlanks(t *testing.T) {
	for _, c := range []struct{ val, top, right, bottom, left string }{
		{"", "", "", "", ""},
		{" ", "", "", "", ""},
		{"  ", "", "", "", ""},
		{"   ", "", "", "", ""},
		{"1 ", "1", "", "1", ""},
		{" 1", "", "1", "", "1"},
		{"1  ", "1", "", "", ""},
		{"  1", "", "", "1", ""},
		{" 1 ", "", "1", "", "1"},
		{"1  2", "1", "", "2", ""},
		{"1   ", "1", "", "", ""},
		{"   1", "", "", "", "1"},
		{"1   2", "1", "", "", "2"},
		{"1 2  ", "1", "2", "", ""},
		{" 1 2 ", "", "1", "2", ""},
		{" 1 2 3", "", "1", "2", "3"},
		{"1 2 3 ", "1", "2", "3", ""},
	} {
		wantExpanded(t, decl("edge", c.val), four(c.top, c.right, c.bottom, c.left, false), api.OK)
		wantExpanded(t, strong("edge", c.val), four(c.top, c.right, c.bottom, c.left, true), api.OK)
	}
}

// D1: nothing but a blank cuts, not even what looks like one.
func TestExpandOfOtherGaps(t *testing.T) {
	for _, val := range []string{"1\t2", "1\n2", "1\r\n2", "1\v2\f3", "1\u00a02", "1\u20032\u30003", "1,2;3/4", "1\x002", "\xff\xfe"} {
		wantExpanded(t, decl("edge", val), four(val, val, val, val, false), api.OK)
		wantExpanded(t, decl("edge", val+" "+val), four(val, val, val, val, false), api.OK)
	}
	wantExpanded(t, decl("edge", "\t1 2\n"), four("\t1", "2\n", "\t1", "2\n", false), api.OK)
}

// D1: more than four values are too many, and there is nothing beside the error.
func TestExpandOfTooMany(t *testing.T) {
	for _, val := range []string{
		"1 2 3 4 5", "1 2 3 4 ", " 1 2 3 4", "    ", "     ", "1    ", "    1", "1  2  3", "1 2 3  4", "a b c d e f g",
		strings.Repeat(" ", 1_000_000), strings.Repeat("1 ", 1_000_000),
	} {
		for _, d := range []api.Decl{decl("edge", val), strong("edge", val)} {
			if got, err := props.Expand(d); len(got) != 0 || err != api.ErrMany {
				t.Errorf("an edge of %d bytes %.20q is expanded to %v, %d", len(val), val, got, err)
			}
		}
	}
}

// D1: a list's declarations are expanded where they stand; equal ones stay as many as they are.
func TestAll(t *testing.T) {
	wantAll(t, nil, nil, api.OK)
	wantAll(t, []api.Decl{}, nil, api.OK)
	wantAll(t, []api.Decl{{}}, []api.Decl{{}}, api.OK)
	red, wide := decl("color", "red"), strong("width", "1 2 3 4 5")
	wantAll(t, []api.Decl{red}, []api.Decl{red}, api.OK)
	wantAll(t, []api.Decl{wide, red, wide, red, red}, []api.Decl{wide, red, wide, red, red}, api.OK)
	wantAll(t, []api.Decl{decl("edge", "1 2")}, four("1", "2", "1", "2", false), api.OK)
	l := []api.Decl{strong("edge", "1"), red, decl("edge-top", "7 8"), decl("edge", "1 2 3 4"), wide}
	want := append(four("1", "1", "1", "1", true), red, decl("edge-top", "7 8"))
	want = append(append(want, four("1", "2", "3", "4", false)...), wide)
	wantAll(t, l, want, api.OK)
}

// D1: one that can't be expanded, at the beginning, amidst or at the end, leaves nothing but its error.
func TestAllOfTooMany(t *testing.T) {
	bad, good := decl("edge", "1 2 3 4 5"), decl("edge", "1 2 3 4")
	for _, l := range [][]api.Decl{
		{bad}, {bad, good}, {good, bad}, {good, bad, good}, {bad, bad}, {decl("color", "red"), bad}, {strong("edge", "    ")},
		{decl("edge-top", "1 2 3 4 5"), good, good, good, strong("edge", "1 2 3 4 ")},
	} {
		wantAll(t, l, nil, api.ErrMany)
	}
}

// Limits: a long list, and what comes of it one behind the other.
func TestAllOfMany(t *testing.T) {
	const n = 100_000
	var l, want []api.Decl
	for i := range n {
		if i%3 == 0 {
			l, want = append(l, strong("edge", "1 2 3")), append(want, four("1", "2", "3", "2", true)...)
		} else {
			l, want = append(l, decl("size", "12")), append(want, decl("size", "12"))
		}
	}
	wantAll(t, l, want, api.OK)
}
