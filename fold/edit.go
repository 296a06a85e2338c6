package fold

import (
	"cmp"
	"slices"
	"strings"

	"inkwell/api"
	"inkwell/cascade"
	"inkwell/sheet"
)

// edit is what shall stand in a page in the place of some of its bytes, perhaps of none.
type edit struct {
	at   api.Span
	text string
}

// allEdits are what folds a page, in no order: the rules that go, and the styles that are new.
func allEdits(l []api.Node, rules []api.Rule) ([]edit, api.Fault) {
	var all []edit
	var goes []api.Rule
	for i, stays := range Stays(l, rules) {
		if !stays {
			goes = append(goes, rules[i])
			all = append(all, edit{at: rules[i].At, text: " "})
		}
	}
	for k, n := range l {
		// There is no error: Read has told all that could be wrong with a rule, or a style.
		look, _ := cascade.Declared(l, k, goes, nil)
		if tooMany(n, look) {
			return nil, api.Fault{Err: api.ErrMany, At: n.NameEnd}
		}
		all = append(all, restyle(n, printed(look))...)
	}
	return all, api.Fault{}
}

// tooMany: whether the look can't be the element's own style, as it has too many properties, or there is no room for one attribute more.
func tooMany(n api.Node, look api.Look) bool {
	_, has := ownStyle(n)
	return len(look) > api.MaxDecls || len(look) > 0 && !has && len(n.Attrs) >= api.MaxAttrs
}

func printed(look api.Look) string {
	var l []api.Decl
	for _, w := range look {
		l = append(l, api.Decl(w))
	}
	return sheet.Print(l)
}

// restyle is the edit that gives the element its new style; none, if it has it already.
func restyle(n api.Node, text string) []edit {
	own, has := ownStyle(n)
	if own.Val == text {
		return nil
	}
	at := own.At
	if !has {
		at = api.Span{From: n.NameEnd, To: n.NameEnd}
	}
	if text != "" {
		text = " " + style + `="` + text + `"`
	}
	return []edit{{at: at, text: text}}
}

// apply is the page with its edits, of which no two touch one byte.
func apply(s string, edits []edit) string {
	slices.SortFunc(edits, func(a, b edit) int { return cmp.Compare(a.at.From, b.at.From) })
	var b strings.Builder
	done := 0
	for _, e := range edits {
		b.WriteString(s[done:e.at.From] + e.text)
		done = e.at.To
	}
	b.WriteString(s[done:])
	return b.String()
}
