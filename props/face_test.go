package props_test

import (
	"slices"
	"testing"
	"unsafe"

	"inkwell/api"
	"inkwell/props"
)

// within: whether a text lies in the memory of another one.
func within(part, whole string) bool {
	if part == "" || whole == "" {
		return false
	}
	p, w := uintptr(unsafe.Pointer(unsafe.StringData(part))), uintptr(unsafe.Pointer(unsafe.StringData(whole)))
	return w <= p && p < w+uintptr(len(whole))
}

// Z2: a list that is handed in is left as it was, with the spare room behind it, whether it can be expanded or not.
func TestOnlyRead(t *testing.T) {
	for _, last := range []api.Decl{decl("edge", "1 2 3 4"), decl("edge", "1 2 3 4 5"), strong("size", "12")} {
		l := []api.Decl{decl("color", "red"), strong("edge", "1 2"), last, decl("edge", "spare room"), {}, {}, {}, {}}
		before := slices.Clone(l)
		want, wantErr := props.All(slices.Clone(l[:3]))
		got, err := props.All(l[:3])
		if !slices.Equal(l, before) {
			t.Errorf("the list is changed to %v", l)
		}
		if !slices.Equal(got, want) || err != wantErr {
			t.Errorf("with spare room behind it, a list is expanded to %v, %d", got, err)
		}
		for i := range l {
			l[i] = decl("changed", "later")
		}
		if !slices.Equal(got, want) {
			t.Errorf("an answer is changed with the list: %v", got)
		}
	}
}

// Z2: an answer is the caller's, its spare room too: whatever is done with it, later answers are the same.
func TestOwnAnswers(t *testing.T) {
	calls := []func() []api.Decl{
		func() []api.Decl { l, _ := props.Expand(decl("edge", "1 2 3")); return l },
		func() []api.Decl { l, _ := props.Expand(strong("color", "red")); return l },
		func() []api.Decl {
			l, _ := props.All([]api.Decl{decl("edge", "1"), decl("edge", "2"), strong("a", "b")})
			return l
		},
		func() []api.Decl { l, _ := props.All(nil); return l },
	}
	for i, call := range calls {
		first := call()
		want := slices.Clone(first)
		second := call()
		first = first[:cap(first)]
		for j := range first {
			first[j] = strong("mine", "mine")
		}
		if third := call(); !slices.Equal(second, want) || !slices.Equal(third, want) {
			t.Errorf("call %d answers %v and %v, not %v", i, second, third, want)
		}
	}
}

// Z2: not even a text of what was handed in is kept.
func TestOwnTexts(t *testing.T) {
	for _, d := range []api.Decl{decl("edge", "11 22 33 44"), decl("edge", "11"), strong("edge", "11 22"), decl("color", "red"), strong("width", "1 2")} {
		l, err := props.All([]api.Decl{d})
		if err != api.OK {
			t.Fatal(err)
		}
		for _, got := range l {
			for _, given := range []string{d.Name, d.Val} {
				if within(got.Name, given) || within(got.Val, given) {
					t.Errorf("%v shares memory with %v", got, d)
				}
			}
		}
	}
}
