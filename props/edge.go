package props

import (
	"strings"

	"inkwell/api"
)

const edge = "edge"

// sides of an edge, in the order of its values.
var sides = [4]string{"edge-top", "edge-right", "edge-bottom", "edge-left"}

// instead tells for each side whose value it has, if it is given none: always one's that is filled ahead of it.
var instead = [4]int{0, 0, 0, 1}

func expandEdge(d api.Decl) ([]api.Decl, api.Errno) {
	// One cut more than there may be shows that there are too many, however long the text goes on.
	given := strings.SplitN(d.Val, " ", len(sides)+1)
	if len(given) > len(sides) {
		return nil, api.ErrMany
	}
	var l []api.Decl
	for i, val := range fill(given) {
		l = append(l, api.Decl{Name: sides[i], Val: val, Strong: d.Strong})
	}
	return l, api.OK
}

// fill tells each side's value; a cut text has at least one.
func fill(given []string) [4]string {
	var vals [4]string
	for i := range vals {
		if i < len(given) {
			vals[i] = given[i]
		} else {
			vals[i] = vals[instead[i]]
		}
	}
	return vals
}
