package sheet

import (
	"inkwell/api"
	"inkwell/scan"
)

// onlyDecls reads declarations up to the text's end.
func (r *reader) onlyDecls() []api.Decl {
	l := r.decls()
	if !r.Ended() {
		scan.Throw(api.ErrForm, r.At())
	}
	return l
}

// decls reads up to the text's end, or a brace, or what can't stand there: these are left to the caller.
func (r *reader) decls() []api.Decl {
	var l []api.Decl
	r.gaps()
	for !r.Ended() && !r.Has("}") {
		if r.HasName() && len(l) >= api.MaxDecls {
			scan.Throw(api.ErrMany, r.At())
		}
		l = append(l, r.decl())
		if !r.Take(";") {
			break
		}
		r.gaps()
	}
	return l
}

func (r *reader) decl() api.Decl {
	d := api.Decl{Name: r.name()}
	r.gaps()
	r.Need(":")
	r.gaps()
	d.Val = r.value()
	if r.Take("!") {
		r.Need("important")
		r.gaps()
		d.Strong = true
	}
	return d
}

func (r *reader) value() string {
	val := r.word("")
	for r.HasByte(isWordByte) {
		val = r.word(val + " ")
	}
	return val
}

// word reads a word and the gaps behind it, and tells the value that it ends.
func (r *reader) word(ahead string) string {
	at := r.At()
	word := r.While(isWordByte)
	if word == "" {
		scan.Throw(api.ErrForm, at)
	}
	if len(ahead)+len(word) > api.MaxVal {
		scan.Throw(api.ErrMuch, at)
	}
	r.gaps()
	return ahead + word
}

func isWordByte(b byte) bool {
	return 'a' <= b && b <= 'z' || '0' <= b && b <= '9' || b == '#' || b == '.' || b == '%' || b == '-'
}
