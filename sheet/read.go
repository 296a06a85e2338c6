package sheet

import (
	"inkwell/api"
	"inkwell/page"
	"inkwell/scan"
)

// reader is a sheet that is being read, and the rules that have ended.
type reader struct {
	scan.Text
	rules []api.Rule
}

// read is the edge at which a fault that is thrown while reading becomes an answer.
func read[L any](s string, all func(*reader) L) (l L, f api.Fault) {
	if len(s) > api.MaxSheet {
		return l, api.Fault{Err: api.ErrMuch}
	}
	defer func() {
		if t, ok := recover().(scan.Thrown); ok {
			f = t.Fault
		}
	}()
	return all(&reader{Text: scan.New(s)}), api.Fault{}
}

func (r *reader) sheet() []api.Rule {
	r.gaps()
	for !r.Ended() {
		if r.Take("@media") {
			r.media()
		} else {
			r.rule("")
		}
		r.gaps()
	}
	return r.rules
}

// media reads what stands behind the word, up to behind the last brace.
func (r *reader) media() {
	if !r.gaps() {
		scan.Throw(api.ErrForm, r.At())
	}
	name := r.name()
	r.gaps()
	r.Need("{")
	r.gaps()
	for !r.Take("}") {
		r.rule(name)
		r.gaps()
	}
}

func (r *reader) rule(media string) {
	from := r.At()
	r.aheadOfPart(len(r.rules), api.MaxRules)
	selectors := r.selectors()
	r.Need("{")
	decls := r.decls()
	r.Need("}")
	r.rules = append(r.rules, api.Rule{
		Media: media, Selectors: selectors, Decls: decls, At: api.Span{From: from, To: r.At()},
	})
}

// gaps reads as many gaps as follow, and tells whether there are any.
func (r *reader) gaps() bool {
	from := r.At()
	for {
		at := r.At()
		switch {
		case r.Take(" "), r.Take("\n"):
		case r.Take("/*"):
			r.Past("*/", at)
		default:
			return at > from
		}
	}
}

// name reads a name that is no longer than one may be.
func (r *reader) name() string {
	at := r.At()
	name := r.Name()
	if !page.Named(name) {
		scan.Throw(api.ErrForm, at)
	}
	return name
}
