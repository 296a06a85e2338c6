package page_test

import (
	"strings"
	"testing"

	"inkwell/api"
	"inkwell/page"
)

// A1: which texts are names.
func TestNamed(t *testing.T) {
	for _, c := range []struct {
		s    string
		want bool
	}{
		{"a", true}, {"z", true}, {"p", true}, {"h1", true}, {"a-b", true}, {"a-", true}, {"a--9", true}, {"z0", true},
		{"", false}, {"1", false}, {"1a", false}, {"-", false}, {"-a", false}, {"A", false}, {"aB", false},
		{" a", false}, {"a ", false}, {"a b", false}, {"a_b", false}, {"a.b", false}, {"a\n", false}, {"a\x00", false},
		{"é", false}, {"aé", false}, {"a\xff", false},
		{strings.Repeat("a", api.MaxName), true},
		{strings.Repeat("a", api.MaxName+1), false},
		{"a" + strings.Repeat("-", api.MaxName-1), true},
		{"a" + strings.Repeat("0", api.MaxName), false},
		{strings.Repeat("a", 1<<20), false},
	} {
		if got := page.Named(c.s); got != c.want {
			t.Errorf("Named(%.30q) is %v, not %v", c.s, got, c.want)
		}
	}
}

// A1: every byte, as the first one of a name, and as a later one.
func TestNamedByEachByte(t *testing.T) {
	const letters, others = "abcdefghijklmnopqrstuvwxyz", "0123456789-"
	for b := range 256 {
		one := string([]byte{byte(b)})
		if got, want := page.Named(one), strings.Contains(letters, one); got != want {
			t.Errorf("Named(%q) is %v, not %v", one, got, want)
		}
		if got, want := page.Named("a"+one+"a"), strings.Contains(letters+others, one); got != want {
			t.Errorf("Named(%q) is %v, not %v", "a"+one+"a", got, want)
		}
	}
}
