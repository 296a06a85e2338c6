package match

import (
	"inkwell/api"
	"inkwell/page"
)

// means goes from the last part to the first one with all elements that may stand for a part at once: trying them one by one would take ever longer with each part more.
func means(l []api.Node, k int, s api.Selector) bool {
	last := len(s) - 1
	at := asAsked(l, []int{k}, s[last])
	for i := last; i > 0 && len(at) > 0; i-- {
		at = asAsked(l, joined(l, at, s[i].Join), s[i-1])
	}
	return len(at) > 0
}

// asAsked is those of the elements that are as the part asks.
func asAsked(l []api.Node, at []int, p api.Part) []int {
	var out []int
	for _, k := range at {
		if isAsPart(l, k, p) {
			out = append(out, k)
		}
	}
	return out
}

// joined is the elements to which the join leads from these.
func joined(l []api.Node, at []int, join int) []int {
	if join == api.Below {
		return allAbove(l, at)
	}
	var out []int
	for _, k := range at {
		if to := single(l, k, join); has(l, to) {
			out = append(out, to)
		}
	}
	return out
}

// single is where a join leads that leads to one element at most; perhaps there is none of that number.
func single(l []api.Node, k, join int) int {
	switch join {
	case api.Child:
		return l[k].Parent
	case api.Next:
		return page.Ahead(l, k)
	}
	return -1
}

// allAbove tells each element once: where two ways up meet, they go on alike.
func allAbove(l []api.Node, at []int) []int {
	var out []int
	told := make([]bool, len(l))
	for _, k := range at {
		for up := l[k].Parent; 0 <= up && up < k && !told[up]; k, up = up, l[up].Parent {
			told[up] = true
			out = append(out, up)
		}
	}
	return out
}
