// Package page reads pages: see doc/01-page.md.
package page

import (
	"strings"

	"inkwell/api"
	"inkwell/scan"
)

// Named: whether s is a name, and no longer than one may be.
func Named(s string) bool {
	return len(s) <= api.MaxName && scan.IsName(s)
}

// Parse tells the elements of a page, as they begin, or the first fault from the left.
func Parse(s string) (l []api.Node, f api.Fault) {
	if len(s) > api.MaxPage {
		return nil, api.Fault{Err: api.ErrMuch}
	}
	return read(s)
}

// Get tells the value of the first attribute of that name, and whether there is one.
func Get(n api.Node, name string) (string, bool) {
	for _, a := range n.Attrs {
		if a.Name == name {
			return strings.Clone(a.Val), true
		}
	}
	return "", false
}

// Ahead tells the number of the last element ahead of number k that has the same Parent, or -1.
func Ahead(l []api.Node, k int) int {
	if k < 0 || k >= len(l) {
		return -1
	}
	for i := k - 1; i >= 0; i-- {
		if l[i].Parent == l[k].Parent {
			return i
		}
	}
	return -1
}
