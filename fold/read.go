package fold

import (
	"inkwell/api"
	"inkwell/props"
	"inkwell/sheet"
)

// style is what an element is called whose text is a sheet, and the attribute that has an element's own declarations.
const style = "style"

// readStyles tells the rules of all styles: each sheet's faults come ahead of there being too many rules in all.
func readStyles(s string, l []api.Node) ([]api.Rule, api.Fault) {
	var all []api.Rule
	for _, n := range l {
		if n.Name != style {
			continue
		}
		rules, f := sheet.Parse(s[n.Inner.From:n.Inner.To])
		if f.Err != api.OK {
			return nil, api.Fault{Err: f.Err, At: n.Inner.From + f.At}
		}
		all = append(all, moved(rules, n.Inner.From)...)
	}
	if len(all) > api.MaxRules {
		return nil, api.Fault{Err: api.ErrMany}
	}
	return all, api.Fault{}
}

// moved is the rules, each as many bytes further on.
func moved(rules []api.Rule, by int) []api.Rule {
	for i := range rules {
		rules[i].At.From += by
		rules[i].At.To += by
	}
	return rules
}

// wrongRule tells the first rule whose declarations can't be expanded.
func wrongRule(rules []api.Rule) api.Fault {
	for _, r := range rules {
		if _, err := props.All(r.Decls); err != api.OK {
			return api.Fault{Err: err, At: r.At.From}
		}
	}
	return api.Fault{}
}

// wrongOwn tells the first attribute `style` that can't be read, or expanded.
func wrongOwn(l []api.Node) api.Fault {
	for _, n := range l {
		own, _ := ownStyle(n)
		if err := wrongDecls(own.Val); err != api.OK {
			return api.Fault{Err: err, At: own.At.From}
		}
	}
	return api.Fault{}
}

func wrongDecls(s string) api.Errno {
	decls, f := sheet.Decls(s)
	if f.Err != api.OK {
		return f.Err
	}
	_, err := props.All(decls)
	return err
}

// ownStyle is the element's attribute `style`, and whether it has one; an empty one declares what none does: nothing.
func ownStyle(n api.Node) (api.Attr, bool) {
	for _, a := range n.Attrs {
		if a.Name == style {
			return a, true
		}
	}
	return api.Attr{}, false
}
