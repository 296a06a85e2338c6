package cascade

import (
	"slices"

	"inkwell/api"
	"inkwell/match"
	"inkwell/page"
	"inkwell/props"
	"inkwell/sheet"
)

// styleAttr is the attribute that has an element's own declarations.
const styleAttr = "style"

// claim is a declaration for one element; an own one has no weight.
type claim struct {
	api.Decl
	own    bool
	weight api.Weight
}

// beats: whether c wins over one that is claimed later.
func (c claim) beats(later claim) bool {
	if c.Strong != later.Strong {
		return c.Strong
	}
	if c.own != later.own {
		return c.own
	}
	return slices.Compare(c.weight[:], later.weight[:]) > 0
}

// winners are what wins for element k, by the names of the properties that are claimed.
func winners(l []api.Node, k int, rules []api.Rule, media []string) (map[string]claim, api.Errno) {
	if k < 0 || k >= len(l) {
		return nil, api.ErrNone
	}
	wins := map[string]claim{}
	err := claims(l, k, rules, media, func(c claim) {
		if held, ok := wins[c.Name]; !ok || !held.beats(c) {
			wins[c.Name] = c
		}
	})
	if err != api.OK {
		return nil, err
	}
	return wins, api.OK
}

// claims tells each claim for element k, the rules' ahead of the element's own, up to the first error.
func claims(l []api.Node, k int, rules []api.Rule, media []string, tell func(claim)) api.Errno {
	for _, r := range rules {
		if r.Media != "" && !slices.Contains(media, r.Media) {
			continue
		}
		w, ok := match.Best(l, k, r)
		if !ok {
			continue
		}
		err := expanded(r.Decls, func(d api.Decl) { tell(claim{Decl: d, weight: w}) })
		if err != api.OK {
			return err
		}
	}
	// An element without the attribute declares what an empty one does: nothing.
	style, _ := page.Get(l[k], styleAttr)
	decls, f := sheet.Decls(style)
	if f.Err != api.OK {
		return f.Err
	}
	return expanded(decls, func(d api.Decl) { tell(claim{Decl: d, own: true}) })
}

// expanded tells what the declarations stand for, one by one; nothing, if one of them can't be expanded.
func expanded(decls []api.Decl, tell func(api.Decl)) api.Errno {
	all, err := props.All(decls)
	for _, d := range all {
		tell(d)
	}
	return err
}
