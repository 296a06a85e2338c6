package match

import (
	"slices"
	"strings"

	"inkwell/api"
	"inkwell/page"
)

// The attributes that tests of their own kinds ask for.
const (
	classAttr = "class"
	idAttr    = "id"
)

// isAsPart: whether element k is as all tests of the part ask.
func isAsPart(l []api.Node, k int, p api.Part) bool {
	for _, t := range p.Tests {
		if !isAsTest(l, k, t) {
			return false
		}
	}
	return true
}

// isAsTest: whether element k is as the test asks.
func isAsTest(l []api.Node, k int, t api.Test) bool {
	n := l[k]
	switch t.Kind {
	case api.IsName:
		return n.Name == t.Name
	case api.IsClass:
		return hasClass(n, t.Name)
	case api.IsID:
		return isAttr(n, idAttr, t.Name)
	case api.HasAttr:
		_, ok := page.Get(n, t.Name)
		return ok
	case api.IsAttr:
		return isAttr(n, t.Name, t.Val)
	case api.IsFirst:
		return page.Ahead(l, k) < 0
	}
	return false
}

// hasClass asks for a name ahead of cutting: between two blanks the cut has an empty piece, which is no word.
func hasClass(n api.Node, name string) bool {
	val, ok := page.Get(n, classAttr)
	return ok && name != "" && slices.Contains(strings.Split(val, " "), name)
}

// isAttr: whether the element has the attribute, and that is val.
func isAttr(n api.Node, name, val string) bool {
	got, ok := page.Get(n, name)
	return ok && got == val
}
