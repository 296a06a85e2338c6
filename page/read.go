package page

import (
	"inkwell/api"
	"inkwell/scan"
)

// The element whose text is a sheet, not items.
const styleName = "style"

// reader is a page that is being read, and the elements that have begun.
type reader struct {
	scan.Text
	nodes []api.Node
}

// read is the edge at which a fault that is thrown while reading becomes an answer.
func read(s string) (l []api.Node, f api.Fault) {
	defer func() {
		if t, ok := recover().(scan.Thrown); ok {
			l, f = nil, t.Fault
		}
	}()
	r := reader{Text: scan.New(s)}
	r.page()
	return r.nodes, api.Fault{}
}

func (r *reader) page() {
	r.items(-1, 1)
	if !r.Ended() {
		scan.Throw(api.ErrForm, r.At())
	}
}

// items reads up to the page's end or a last tag, which is left to whoever has begun the element.
func (r *reader) items(parent, deep int) {
	for !r.Ended() && !r.Has("</") {
		switch {
		case r.Take("<!--"):
			r.Past("-->", r.Len())
		case r.Has("<"):
			r.element(parent, deep)
		default:
			r.NeedByte(isText)
		}
	}
}

func (r *reader) element(parent, deep int) {
	k := len(r.nodes)
	if deep > api.MaxDeep || k >= api.MaxNodes {
		scan.Throw(api.ErrMuch, r.At())
	}
	n := r.firstTag()
	n.Parent = parent
	if n.Name == styleName {
		n.Inner = r.Past(lastTag(n.Name), r.Len())
		r.nodes = append(r.nodes, n)
		return
	}
	r.nodes = append(r.nodes, n)
	r.items(k, deep+1)
	r.Need(lastTag(n.Name))
}

func (r *reader) firstTag() api.Node {
	var n api.Node
	r.Need("<")
	at := r.At()
	n.Name = r.Name()
	needShort(n.Name, at)
	n.NameEnd = r.At()
	for r.Has(" ") {
		n.Attrs = append(n.Attrs, r.attr(n))
	}
	r.Need(">")
	return n
}

// lastTag is one token: where it is another one, the fault is at its first byte.
func lastTag(name string) string { return "</" + name + ">" }

// attr reads one attribute more of n.
func (r *reader) attr(n api.Node) api.Attr {
	from := r.At()
	r.Need(" ")
	name := r.attrName(n)
	r.Need(`="`)
	val := r.While(isValue)
	r.Need(`"`)
	return api.Attr{Name: name, Val: val, At: api.Span{From: from, To: r.At()}}
}

// attrName tells of too many attributes ahead of what is wrong with the name itself, as A2 asks.
func (r *reader) attrName(n api.Node) string {
	at := r.At()
	name := r.Name()
	if len(n.Attrs) >= api.MaxAttrs {
		scan.Throw(api.ErrMany, at)
	}
	needShort(name, at)
	if _, taken := Get(n, name); taken {
		scan.Throw(api.ErrName, at)
	}
	return name
}

// needShort throws at a name that is longer than one may be.
func needShort(name string, at int) {
	if len(name) > api.MaxName {
		scan.Throw(api.ErrName, at)
	}
}

func isText(b byte) bool { return b == '\n' || isPlain(b) && b != '<' }

func isValue(b byte) bool {
	return isPlain(b) && b != '"' && b != '<' && b != '&'
}

func isPlain(b byte) bool { return 32 <= b && b <= 126 }
