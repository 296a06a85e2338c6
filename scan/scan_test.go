package scan_test

import (
	"strings"
	"testing"

	"inkwell/api"
	"inkwell/scan"
)

// caught is the fault that is thrown, if one is.
func caught(read func()) (f api.Fault) {
	defer func() {
		if t, ok := recover().(scan.Thrown); ok {
			f = t.Fault
		}
	}()
	read()
	return
}

func isX(b byte) bool { return b == 'x' }

func TestThrow(t *testing.T) {
	if f := caught(func() { scan.Throw(api.ErrMany, 3) }); f != (api.Fault{Err: api.ErrMany, At: 3}) {
		t.Errorf("thrown is %v", f)
	}
	if f := caught(func() {}); f != (api.Fault{}) {
		t.Errorf("nothing thrown is %v", f)
	}
}

func TestTokens(t *testing.T) {
	x := scan.New("ab>c")
	if !x.Has("ab") || x.Has("b") || x.At() != 0 || x.Len() != 4 {
		t.Errorf("Has reads, or is wrong: at %d", x.At())
	}
	if x.Take("b") || x.At() != 0 || !x.Take("ab") || x.At() != 2 {
		t.Errorf("Take is wrong: at %d", x.At())
	}
	if f := caught(func() { x.Need("c") }); f != (api.Fault{Err: api.ErrForm, At: 2}) {
		t.Errorf("Need throws %v", f)
	}
	x.Need(">c")
	if !x.Ended() || x.Has("c") || !x.Has("") {
		t.Errorf("the end is not seen: at %d", x.At())
	}
	if f := caught(func() { x.Need("c") }); f != (api.Fault{Err: api.ErrForm, At: 4}) {
		t.Errorf("Need at the end throws %v", f)
	}
}

func TestBytes(t *testing.T) {
	x := scan.New("xxxyx")
	x.NeedByte(isX)
	if got := x.While(isX); got != "xx" || x.At() != 3 {
		t.Errorf("While is %q, at %d", got, x.At())
	}
	if got := x.While(isX); got != "" || x.At() != 3 {
		t.Errorf("While of none is %q, at %d", got, x.At())
	}
	if f := caught(func() { x.NeedByte(isX) }); f != (api.Fault{Err: api.ErrForm, At: 3}) {
		t.Errorf("NeedByte throws %v", f)
	}
	x.Need("y")
	if got := x.While(isX); got != "x" || !x.Ended() {
		t.Errorf("While at the end is %q", got)
	}
	if f := caught(func() { x.NeedByte(isX) }); f != (api.Fault{Err: api.ErrForm, At: 5}) {
		t.Errorf("NeedByte at the end throws %v", f)
	}
}

func TestHasByte(t *testing.T) {
	x := scan.New("xy")
	if !x.HasByte(isX) || x.At() != 0 {
		t.Errorf("HasByte reads, or is wrong: at %d", x.At())
	}
	x.Need("x")
	if x.HasByte(isX) || x.At() != 1 {
		t.Errorf("HasByte fits what does not: at %d", x.At())
	}
	x.Need("y")
	if x.HasByte(func(byte) bool { return true }) {
		t.Errorf("HasByte at the end")
	}
}

func TestHasName(t *testing.T) {
	for s, want := range map[string]bool{"a": true, "z1": true, "a?": true, "": false, "1": false, "-": false, "A": false, " a": false} {
		x := scan.New(s)
		if got := x.HasName(); got != want || x.At() != 0 {
			t.Errorf("HasName of %q is %v, at %d", s, got, x.At())
		}
	}
}

func TestPast(t *testing.T) {
	x := scan.New("(a))b)")
	x.Need("(")
	if got := x.Past(")", 0); got != (api.Span{From: 1, To: 2}) || x.At() != 3 {
		t.Errorf("Past is %v, at %d", got, x.At())
	}
	if got := x.Past(")", 0); got != (api.Span{From: 3, To: 3}) || x.At() != 4 {
		t.Errorf("Past of nothing is %v, at %d", got, x.At())
	}
	if f := caught(func() { x.Past("(", 2) }); f != (api.Fault{Err: api.ErrForm, At: 2}) {
		t.Errorf("Past throws %v", f)
	}
}

func TestNames(t *testing.T) {
	long := strings.Repeat("n", 100)
	for _, c := range []struct{ s, name string }{{"a", "a"}, {"a-1 b", "a-1"}, {"ab>", "ab"}, {"aB", "a"}, {long + "=", long}} {
		x := scan.New(c.s)
		if got := x.Name(); got != c.name || x.At() != len(c.name) {
			t.Errorf("Name of %q is %q, at %d", c.s, got, x.At())
		}
		if got := scan.IsName(c.s); got != (c.s == c.name) {
			t.Errorf("IsName of %q is %v", c.s, got)
		}
	}
	if !scan.IsName(long) {
		t.Errorf("IsName counts")
	}
	for _, s := range []string{"", "1", "-a", "A", " a", "\xff"} {
		x := scan.New(s)
		if f := caught(func() { x.Name() }); f != (api.Fault{Err: api.ErrForm}) {
			t.Errorf("Name of %q throws %v", s, f)
		}
		if scan.IsName(s) {
			t.Errorf("%q is a name", s)
		}
	}
}
