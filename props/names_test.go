package props_test

import (
	"strings"
	"testing"

	"inkwell/props"
)

// D2: which properties go from parent to child, and what each is where nothing says it.
func TestInheritsAndInitial(t *testing.T) {
	for _, c := range []struct {
		name     string
		inherits bool
		initial  string
	}{
		{"color", true, "black"}, {"font", true, "plain"}, {"size", true, "10"},
		{"edge-top", false, "0"}, {"edge-right", false, "0"}, {"edge-bottom", false, "0"}, {"edge-left", false, "0"},
		{"edge", false, "none"}, {"width", false, "none"}, {"height", false, "none"}, {"none", false, "none"},
		{"", false, "none"}, {" ", false, "none"}, {"edge-", false, "none"}, {"edge-middle", false, "none"}, {"edge-top-left", false, "none"},
		{"top", false, "none"}, {"left", false, "none"}, {"black", false, "none"}, {"colour", false, "none"}, {"colo", false, "none"}, {"colors", false, "none"},
		{"Color", false, "none"}, {"FONT", false, "none"}, {"size ", false, "none"}, {" size", false, "none"}, {"size\x00", false, "none"},
		{"Edge-Top", false, "none"}, {"edge-top ", false, "none"}, {"\xff", false, "none"}, {strings.Repeat("color", 1000), false, "none"},
	} {
		if got := props.Inherits(c.name); got != c.inherits {
			t.Errorf("Inherits of %q is %v", c.name, got)
		}
		if got := props.Initial(c.name); got != c.initial {
			t.Errorf("Initial of %q is %q, not %q", c.name, got, c.initial)
		}
	}
}

// D2: each name says the same thing as often as it is asked for.
func TestNamesAgain(t *testing.T) {
	for range 100 {
		if !props.Inherits("font") || props.Inherits("edge-left") || props.Initial("size") != "10" || props.Initial("edge-left") != "0" {
			t.Fatal("a name says another thing than before")
		}
	}
}
