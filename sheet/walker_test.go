package sheet_test

import (
	"strings"

	"inkwell/api"
)

// walker is B1 and B2 said another way: places in a sheet, and what leads from one to the next.
type walker struct {
	s     string
	at    int
	place string
	media bool // within media
	alone bool // declarations without a rule

	rules, selectors, parts, tests, decls, val int
}

// sheetFault is the first fault of a sheet.
func sheetFault(s string) api.Fault { return (&walker{s: s, place: "top"}).walk() }

// declsFault is the first fault of declarations.
func declsFault(s string) api.Fault { return (&walker{s: s, place: "decl", alone: true}).walk() }

// gapsIn: the places where gaps may stand; behind a part they lead to another place.
const gapsIn = " top media-name media-brace inside ahead selector gap decl colon value words strong "

func (w *walker) walk() api.Fault {
	if len(w.s) > api.MaxSheet {
		return api.Fault{Err: api.ErrMuch}
	}
	for w.at < len(w.s) {
		if n := gapAt(w.s[w.at:]); n > 0 && w.gap() {
			w.at += n
			continue
		}
		if f := w.step(); f.Err != api.OK {
			return f
		}
	}
	if w.place == "top" || w.alone && (w.place == "decl" || w.place == "words" || w.place == "strong") {
		return api.Fault{}
	}
	return w.fault(api.ErrForm)
}

// gap: whether a gap may stand here.
func (w *walker) gap() bool {
	switch w.place {
	case "media":
		w.place = "media-name"
	case "tests":
		w.place = "gap"
	}
	return strings.Contains(gapsIn, " "+w.place+" ")
}

func gapAt(s string) int {
	if s[0] == ' ' || s[0] == '\n' {
		return 1
	}
	if strings.HasPrefix(s, "/*") {
		if n := strings.Index(s[2:], "*/"); n >= 0 {
			return n + 4
		}
	}
	return 0
}

func (w *walker) fault(err api.Errno) api.Fault { return api.Fault{Err: err, At: w.at} }

// to goes on behind a token, if it is here.
func (w *walker) to(place, token string) bool {
	if !strings.HasPrefix(w.s[w.at:], token) {
		return false
	}
	w.at += len(token)
	w.place = place
	return true
}

// run is how many bytes of a kind are here.
func (w *walker) run(bytes string) int {
	rest := w.s[w.at:]
	return len(rest) - len(strings.TrimLeft(rest, bytes))
}

const (
	letters   = "abcdefghijklmnopqrstuvwxyz"
	nameBytes = letters + "0123456789-"
	wordBytes = nameBytes + "#.%"
)

// named goes on behind a name, if a good one is here.
func (w *walker) named(place string) bool {
	n := w.run(nameBytes)
	if n == 0 || n > api.MaxName || !strings.Contains(letters, w.s[w.at:w.at+1]) {
		return false
	}
	w.at += n
	w.place = place
	return true
}

func (w *walker) step() api.Fault {
	ok := false
	switch w.place {
	case "top":
		ok = w.to("media", "@media")
		w.media = ok
		if !ok {
			return w.part(&w.rules, api.MaxRules)
		}
	case "media-name":
		ok = w.named("media-brace")
	case "media-brace":
		ok = w.to("inside", "{")
	case "inside":
		if !w.to("top", "}") {
			return w.part(&w.rules, api.MaxRules)
		}
		w.media, ok = false, true
	case "selector":
		return w.part(&w.selectors, api.MaxSelectors)
	case "ahead":
		return w.part(&w.parts, api.MaxParts)
	case "tests", "gap":
		return w.behindPart()
	case "decl", "colon", "value", "words", "mark", "strong":
		return w.inDecls()
	}
	if !ok {
		return w.fault(api.ErrForm)
	}
	return api.Fault{}
}

// part begins one, and whatever begins with it, of which there are has.
func (w *walker) part(has *int, most int) api.Fault {
	rest := w.s[w.at:]
	if !strings.Contains(letters+"*.#[", rest[:1]) && !strings.HasPrefix(rest, ":first") {
		return w.fault(api.ErrForm)
	}
	if *has == most {
		return w.fault(api.ErrMany)
	}
	*has++
	switch has {
	case &w.rules:
		w.selectors, w.parts = 1, 1
	case &w.selectors:
		w.parts = 1
	}
	w.tests = 0
	if w.to("tests", "*") {
		return api.Fault{}
	}
	if strings.Contains(letters, rest[:1]) {
		if !w.named("tests") {
			return w.fault(api.ErrForm)
		}
		w.tests = 1
		return api.Fault{}
	}
	return w.test()
}

func (w *walker) test() api.Fault {
	ok := false
	switch {
	case w.to("tests", ".") || w.to("tests", "#"):
		ok = w.named("tests")
	case w.to("tests", ":first"):
		ok = true
	case w.to("tests", "["):
		from := w.at
		ok = w.named("tests")
		if ok && w.s[from:w.at] == "style" {
			return w.fault(api.ErrKind)
		}
		if ok && w.to("tests", "=") {
			ok = w.named("tests")
		}
		ok = ok && w.to("tests", "]")
	}
	if !ok {
		return w.fault(api.ErrForm)
	}
	if w.tests++; w.tests > api.MaxTests {
		return w.fault(api.ErrMany)
	}
	return api.Fault{}
}

// behindPart is right behind a test, or behind gaps.
func (w *walker) behindPart() api.Fault {
	switch {
	case w.to("ahead", ">") || w.to("ahead", "+") || w.to("selector", ","):
	case w.to("decl", "{"):
		w.decls = 0
	case w.place == "tests":
		return w.test()
	default:
		return w.part(&w.parts, api.MaxParts)
	}
	return api.Fault{}
}

func (w *walker) inDecls() api.Fault {
	if w.place != "colon" && w.place != "value" && w.place != "mark" && !w.alone {
		out := "top"
		if w.media {
			out = "inside"
		}
		if w.to(out, "}") {
			return api.Fault{}
		}
	}
	ok := false
	switch w.place {
	case "decl":
		if strings.Contains(letters, w.s[w.at:w.at+1]) && w.decls == api.MaxDecls {
			return w.fault(api.ErrMany)
		}
		w.decls++
		ok = w.named("colon")
	case "colon":
		ok = w.to("value", ":")
		w.val = -1
	case "value", "words":
		n := w.run(wordBytes)
		if n == 0 {
			ok = w.place == "words" && (w.to("mark", "!") || w.to("decl", ";"))
			break
		}
		if w.val += 1 + n; w.val > api.MaxVal {
			return w.fault(api.ErrMuch)
		}
		w.at += n
		w.place, ok = "words", true
	case "mark":
		ok = w.to("strong", "important")
	case "strong":
		ok = w.to("decl", ";")
	}
	if !ok {
		return w.fault(api.ErrForm)
	}
	return api.Fault{}
}
