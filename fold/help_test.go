package fold_test

import (
	"reflect"
	"strconv"
	"strings"
	"testing"

	"inkwell/api"
	"inkwell/fold"
)

func st(s string) string { return "<style>" + s + "</style>" }

// wantFault: Read and Fold tell the fault, and nothing beside it.
func wantFault(t *testing.T, s string, err api.Errno, at int) {
	t.Helper()
	want := api.Fault{Err: err, At: at}
	if l, rules, f := fold.Read(s); f != want || len(l) != 0 || len(rules) != 0 {
		t.Errorf("%q is read as %v, %v, %v, not with the fault %v", s, l, rules, f, want)
	}
	wantNoFold(t, s, err, at)
}

// wantNoFold: Fold tells the fault, and nothing beside it.
func wantNoFold(t *testing.T, s string, err api.Errno, at int) {
	t.Helper()
	want := api.Fault{Err: err, At: at}
	if out, f := fold.Fold(s); f != want || out != "" {
		t.Errorf("%q is folded to %q, %v, not with the fault %v", s, out, f, want)
	}
}

func read(t *testing.T, s string) ([]api.Node, []api.Rule) {
	t.Helper()
	l, rules, f := fold.Read(s)
	if f != (api.Fault{}) {
		t.Fatalf("%q has the fault %v", s, f)
	}
	return l, rules
}

func folded(t *testing.T, s string) string {
	t.Helper()
	out, f := fold.Fold(s)
	if f != (api.Fault{}) {
		t.Fatalf("%q is not folded: %v", s, f)
	}
	return out
}

// wantFold: what the page is folded to; and that is folded to itself.
func wantFold(t *testing.T, s, want string) {
	t.Helper()
	if got := folded(t, s); got != want {
		t.Errorf("%q is folded to %q, not %q", s, got, want)
	} else if again := folded(t, got); again != want {
		t.Errorf("%q is folded again, to %q", got, again)
	}
}

// wantStays: of each rule of the page's styles y, if it must stay, or else n.
func wantStays(t *testing.T, s, want string) {
	t.Helper()
	l, rules := read(t, s)
	if got := letters(fold.Stays(l, rules)); got != want {
		t.Errorf("of the rules of %q %s must stay, not %s", s, got, want)
	}
}

func letters(l []bool) string {
	var b strings.Builder
	for _, stays := range l {
		if stays {
			b.WriteByte('y')
		} else {
			b.WriteByte('n')
		}
	}
	return b.String()
}

// parted is declarations, each of another property: a0:b;a1:b; and so on, from a number on, below another one.
func parted(from, to int) string {
	var b strings.Builder
	for i := from; i < to; i++ {
		b.WriteString("a" + strconv.Itoa(i) + ":b;")
	}
	return b.String()
}

// attrs is as many attributes, none of them a style.
func attrs(n int) string {
	var b strings.Builder
	for i := range n {
		b.WriteString(" x" + strconv.Itoa(i) + `="y"`)
	}
	return b.String()
}

func same(a, b any) bool { return reflect.DeepEqual(a, b) }
