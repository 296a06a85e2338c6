package fold

import (
	"slices"

	"inkwell/api"
	"inkwell/match"
	"inkwell/props"
)

// hold is what a rule lays hold of: each of its properties, of each of its elements.
type hold struct {
	elements []int
	names    []string
}

func allHolds(l []api.Node, rules []api.Rule) []hold {
	var all []hold
	for _, r := range rules {
		all = append(all, hold{elements: meant(l, r), names: declared(r)})
	}
	return all
}

// meant is the numbers of the elements that the rule means.
func meant(l []api.Node, r api.Rule) []int {
	var out []int
	for k := range l {
		if _, ok := match.Best(l, k, r); ok {
			out = append(out, k)
		}
	}
	return out
}

// declared is the names of the properties that the rule declares; none, if it can't be expanded.
func declared(r api.Rule) []string {
	var out []string
	all, _ := props.All(r.Decls)
	for _, d := range all {
		out = append(out, d.Name)
	}
	return out
}

// meeting asks of other holds whether they meet h: what it blocks is laid out once for all of them.
func meeting(h hold) func(hold) bool {
	elements, names := blocked(h.elements), blocked(h.names)
	return func(other hold) bool {
		return slices.ContainsFunc(other.elements, elements) && slices.ContainsFunc(other.names, names)
	}
}

// blocked asks whether something is one of these.
func blocked[T comparable](these []T) func(T) bool {
	block := map[T]struct{}{}
	for _, x := range these {
		block[x] = struct{}{}
	}
	return func(x T) bool {
		_, ok := block[x]
		return ok
	}
}
