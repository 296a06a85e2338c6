package sheet

import (
	"inkwell/api"
	"inkwell/scan"
)

const (
	firstWord = ":first"
	// The attribute that is an element's own style: no test may hang on it.
	ownStyle = "style"
)

func (r *reader) selectors() []api.Selector {
	var l []api.Selector
	for {
		r.aheadOfPart(len(l), api.MaxSelectors)
		l = append(l, r.selector())
		if !r.Take(",") {
			return l
		}
		r.gaps()
	}
}

func (r *reader) selector() api.Selector {
	var l api.Selector
	for join, more := api.Any, true; more; join, more = r.join() {
		r.aheadOfPart(len(l), api.MaxParts)
		l = append(l, r.part(join))
	}
	return l
}

// aheadOfPart throws where no part begins; or else, if what begins with it would be one too many.
func (r *reader) aheadOfPart(has, most int) {
	if !r.hasPart() {
		scan.Throw(api.ErrForm, r.At())
	}
	if has >= most {
		scan.Throw(api.ErrMany, r.At())
	}
}

// hasPart: whether a part begins next.
func (r *reader) hasPart() bool {
	return r.HasName() || r.Has("*") || r.Has(".") || r.Has("#") || r.Has("[") || r.Has(firstWord)
}

// join reads what stands between two parts, and tells whether there is a next one; if not, the gaps it has read are those that end a selector.
func (r *reader) join() (int, bool) {
	gaps := r.gaps()
	switch {
	case r.Take(">"):
		r.gaps()
		return api.Child, true
	case r.Take("+"):
		r.gaps()
		return api.Next, true
	case !gaps, r.Has(","), r.Has("{"), r.Ended():
		return api.Any, false
	}
	return api.Below, true
}

// part reads a part, of which hasPart holds.
func (r *reader) part(join int) api.Part {
	p := api.Part{Join: join}
	if !r.Take("*") && r.HasName() {
		p.Tests = append(p.Tests, api.Test{Kind: api.IsName, Name: r.name()})
	}
	for {
		t := r.test()
		if t.Kind == 0 {
			return p
		}
		if len(p.Tests) >= api.MaxTests {
			scan.Throw(api.ErrMany, r.At())
		}
		p.Tests = append(p.Tests, t)
	}
}

// test reads a test other than a name; one of no kind, if there is none.
func (r *reader) test() api.Test {
	switch {
	case r.Take("."):
		return api.Test{Kind: api.IsClass, Name: r.name()}
	case r.Take("#"):
		return api.Test{Kind: api.IsID, Name: r.name()}
	case r.Take(firstWord):
		return api.Test{Kind: api.IsFirst}
	case r.Take("["):
		return r.attrTest()
	}
	return api.Test{}
}

// attrTest reads what stands behind the bracket of an attribute's test.
func (r *reader) attrTest() api.Test {
	t := api.Test{Kind: api.HasAttr, Name: r.name()}
	if t.Name == ownStyle {
		scan.Throw(api.ErrKind, r.At())
	}
	if r.Take("=") {
		t.Kind, t.Val = api.IsAttr, r.name()
	}
	r.Need("]")
	return t
}
