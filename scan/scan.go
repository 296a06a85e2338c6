// Package scan reads texts from left to right, and throws a fault where one is not as it must be.
package scan

import (
	"strings"

	"inkwell/api"
)

// Thrown is a fault that is thrown: a type of its own, so that who recovers takes no other panic for one.
type Thrown struct{ api.Fault }

// Throw leaves all that is being read, up to the edge where Thrown is recovered.
func Throw(err api.Errno, at int) {
	panic(Thrown{api.Fault{Err: err, At: at}})
}

// Text is a text, and how far it has been read.
type Text struct {
	all string
	at  int
}

// New is the text s, nothing of it read.
func New(s string) Text { return Text{all: s} }

// At is where the next byte to be read stands.
func (t *Text) At() int { return t.at }

// Len is how many bytes the whole text has.
func (t *Text) Len() int { return len(t.all) }

// Ended: whether all is read.
func (t *Text) Ended() bool { return t.at >= len(t.all) }

// Has: whether the token stands next.
func (t *Text) Has(token string) bool {
	return strings.HasPrefix(t.all[t.at:], token)
}

// Take reads the token, if it stands next, and tells whether it did.
func (t *Text) Take(token string) bool {
	if !t.Has(token) {
		return false
	}
	t.at += len(token)
	return true
}

// Need reads the token, which must stand next.
func (t *Text) Need(token string) {
	if !t.Take(token) {
		Throw(api.ErrForm, t.at)
	}
}

// HasByte: whether a byte that fits stands next.
func (t *Text) HasByte(fits func(byte) bool) bool {
	return !t.Ended() && fits(t.all[t.at])
}

// NeedByte reads one byte, which must be there and fit.
func (t *Text) NeedByte(fits func(byte) bool) {
	if !t.HasByte(fits) {
		Throw(api.ErrForm, t.at)
	}
	t.at++
}

// Past reads up to behind the first such token, and tells where the bytes ahead of it stand; the fault is at missing, if there is none.
func (t *Text) Past(token string, missing int) api.Span {
	n := strings.Index(t.all[t.at:], token)
	if n < 0 {
		Throw(api.ErrForm, missing)
	}
	ahead := api.Span{From: t.at, To: t.at + n}
	t.at = ahead.To + len(token)
	return ahead
}

// While reads as many bytes as fit, perhaps none.
func (t *Text) While(fits func(byte) bool) string {
	from := t.at
	for t.HasByte(fits) {
		t.at++
	}
	return t.since(from)
}

// HasName: whether a name begins next.
func (t *Text) HasName() bool { return t.HasByte(isLetter) }

// Name reads a name of any length: what too long a one is depends on where it stands.
func (t *Text) Name() string {
	from := t.at
	t.NeedByte(isLetter)
	t.While(isNameByte)
	return t.since(from)
}

// since copies, so that an answer shares no memory with the text that was handed in.
func (t *Text) since(from int) string {
	return strings.Clone(t.all[from:t.at])
}

// IsName: whether all of s is one name, of any length.
func IsName(s string) bool {
	if s == "" || !isLetter(s[0]) {
		return false
	}
	for i := range len(s) {
		if !isNameByte(s[i]) {
			return false
		}
	}
	return true
}

func isLetter(b byte) bool { return 'a' <= b && b <= 'z' }

func isNameByte(b byte) bool {
	return isLetter(b) || '0' <= b && b <= '9' || b == '-'
}
