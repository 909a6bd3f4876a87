package cursor_test

import (
	"math"
	"testing"

	"truchman/api"
	"truchman/cursor"
)

// state is all that a cursor tells of itself without going on.
type state struct {
	at, left int
	err      api.Code
	next     byte
	is       bool
	end      api.Code
}

func stateOf(c *cursor.Cursor) state {
	next, is := c.Peek()
	return state{c.At(), c.Left(), c.Err(), next, is, c.End()}
}

func wantState(t *testing.T, when string, c *cursor.Cursor, want state) {
	t.Helper()
	if got := stateOf(c); got != want {
		t.Errorf("%s: %+v, want %+v", when, got, want)
	}
}

// failed tells a cursor over s that stands at a place, and has an error.
func failed(s string, at int, code api.Code) *cursor.Cursor {
	c := cursor.New(s)
	c.Take(at)
	c.Fail(code)
	return c
}

// allBytes is a text of each byte once, in order.
func allBytes() string {
	b := make([]byte, 256)
	for i := range b {
		b[i] = byte(i)
	}
	return string(b)
}

// 1.1: a new cursor stands at the first byte, without an error.
func TestNew(t *testing.T) {
	wantState(t, "no bytes", cursor.New(""), state{0, 0, api.OK, 0, false, api.OK})
	wantState(t, "one byte", cursor.New("x"), state{0, 1, api.OK, 'x', true, api.ErrTail})
	wantState(t, "a byte 0", cursor.New("\x00"), state{0, 1, api.OK, 0, true, api.ErrTail})
	wantState(t, "no character", cursor.New("\xff\xfe"), state{0, 2, api.OK, 0xff, true, api.ErrTail})
	wantState(t, "a character of two bytes", cursor.New("é"), state{0, 2, api.OK, 0xc3, true, api.ErrTail})
}

// 1.1: two cursors over one text have nothing to do with each other.
func TestNewApart(t *testing.T) {
	a, b := cursor.New("abc"), cursor.New("abc")
	a.Byte()
	a.Fail(api.ErrForm)
	wantState(t, "the other one", b, state{0, 3, api.OK, 'a', true, api.ErrTail})
}

// 1.1: Peek, At, Left and Err tell where the cursor stands, and change nothing.
func TestPeekStays(t *testing.T) {
	c := cursor.New("ab")
	for range 3 {
		wantState(t, "at the first", c, state{0, 2, api.OK, 'a', true, api.ErrTail})
	}
	c.Byte()
	for range 3 {
		wantState(t, "at the second", c, state{1, 1, api.OK, 'b', true, api.ErrTail})
	}
	c.Byte()
	for range 3 {
		wantState(t, "behind the last", c, state{2, 0, api.OK, 0, false, api.OK})
	}
}

// 1.1: with an error Peek tells nothing, even if bytes are left; At and Left tell as before.
func TestPeekOfFailed(t *testing.T) {
	wantState(t, "bytes left", failed("abc", 1, api.ErrForm), state{1, 2, api.ErrForm, 0, false, api.ErrForm})
	wantState(t, "none left", failed("abc", 3, api.ErrForm), state{3, 0, api.ErrForm, 0, false, api.ErrForm})
}

// 1.2: Byte reads any bytes, each one once, in order, and ErrCut behind the last one.
func TestByte(t *testing.T) {
	s := allBytes()
	c := cursor.New(s)
	for i := range len(s) {
		if b := c.Byte(); b != s[i] || c.At() != i+1 || c.Left() != len(s)-i-1 || c.Err() != api.OK {
			t.Fatalf("byte %d: %d, at %d, left %d, error %d", i, b, c.At(), c.Left(), c.Err())
		}
	}
	wantState(t, "behind the last", c, state{256, 0, api.OK, 0, false, api.OK})
	if b := c.Byte(); b != 0 {
		t.Error("no byte is left:", b)
	}
	wantState(t, "beyond the last", c, state{256, 0, api.ErrCut, 0, false, api.ErrCut})
}

// 1.2: Byte of no bytes.
func TestByteOfNone(t *testing.T) {
	c := cursor.New("")
	if b := c.Byte(); b != 0 {
		t.Error(b)
	}
	wantState(t, "no bytes", c, state{0, 0, api.ErrCut, 0, false, api.ErrCut})
}

// 1.2: Take reads n bytes from each place, if n are left; of other numbers it tells what is wrong, and stays.
func TestTake(t *testing.T) {
	s := "a\x00\xff\xc3\xa9z"
	for at := 0; at <= len(s); at++ {
		for n := -2; n <= len(s)+2; n++ {
			c := cursor.New(s)
			c.Take(at)
			got := c.Take(n)
			want, stands, code := "", at, api.OK
			switch {
			case n < 0:
				code = api.ErrArg
			case at+n > len(s):
				code = api.ErrCut
			default:
				want, stands = s[at:at+n], at+n
			}
			if got != want || c.At() != stands || c.Left() != len(s)-stands || c.Err() != code {
				t.Errorf("at %d, Take(%d): %q, at %d, left %d, error %d", at, n, got, c.At(), c.Left(), c.Err())
			}
		}
	}
}

// farNumbers are those of which a sum with a place may go round.
var farNumbers = []struct {
	n    int
	code api.Code
}{
	{math.MinInt, api.ErrArg},
	{math.MinInt + 1, api.ErrArg},
	{-1, api.ErrArg},
	{math.MaxInt - 1, api.ErrCut},
	{math.MaxInt, api.ErrCut},
}

// 1.2 and 1.3: numbers as far off as there are.
func TestFarNumbers(t *testing.T) {
	for _, far := range farNumbers {
		c := cursor.New("abc")
		c.Byte()
		if s := c.Take(far.n); s != "" {
			t.Errorf("Take(%d): %q", far.n, s)
		}
		wantState(t, "behind Take", c, state{1, 2, far.code, 0, false, far.code})
		d := cursor.New("abc")
		d.Byte()
		if x := d.Sub(far.n); x != nil {
			t.Errorf("Sub(%d): %+v", far.n, stateOf(x))
		}
		wantState(t, "behind Sub", d, state{1, 2, far.code, 0, false, far.code})
	}
}

// 1.2: to take no bytes is right anywhere.
func TestTakeNone(t *testing.T) {
	c := cursor.New("a")
	if s := c.Take(0); s != "" {
		t.Error(s)
	}
	wantState(t, "at the first", c, state{0, 1, api.OK, 'a', true, api.ErrTail})
	c.Byte()
	if s := c.Take(0); s != "" {
		t.Error(s)
	}
	wantState(t, "behind the last", c, state{1, 0, api.OK, 0, false, api.OK})
}

// 1.2: the chapter's example.
func TestTakeTooMany(t *testing.T) {
	c := cursor.New("abc")
	if b := c.Byte(); b != 'a' {
		t.Error(b)
	}
	if s := c.Take(3); s != "" {
		t.Error(s)
	}
	wantState(t, "cut", c, state{1, 2, api.ErrCut, 0, false, api.ErrCut})
}

// 1.2: a cursor that has an error reads nothing, stays where it stood, and keeps the first error, whatever it is asked.
func TestFirstErrorStays(t *testing.T) {
	asked := map[string]func(*cursor.Cursor) bool{
		"Byte":         func(c *cursor.Cursor) bool { return c.Byte() == 0 },
		"Take(-1)":     func(c *cursor.Cursor) bool { return c.Take(-1) == "" },
		"Take(0)":      func(c *cursor.Cursor) bool { return c.Take(0) == "" },
		"Take(1)":      func(c *cursor.Cursor) bool { return c.Take(1) == "" },
		"Take(9)":      func(c *cursor.Cursor) bool { return c.Take(9) == "" },
		"Sub(-1)":      func(c *cursor.Cursor) bool { return c.Sub(-1) == nil },
		"Sub(0)":       func(c *cursor.Cursor) bool { return c.Sub(0) == nil },
		"Sub(1)":       func(c *cursor.Cursor) bool { return c.Sub(1) == nil },
		"Sub(9)":       func(c *cursor.Cursor) bool { return c.Sub(9) == nil },
		"End":          func(c *cursor.Cursor) bool { return c.End() == c.Err() },
		"Fail(OK)":     func(c *cursor.Cursor) bool { c.Fail(api.OK); return true },
		"Fail(ErrArg)": func(c *cursor.Cursor) bool { c.Fail(api.ErrArg); return true },
		"Fail(ErrCut)": func(c *cursor.Cursor) bool { c.Fail(api.ErrCut); return true },
	}
	for name, ask := range asked {
		for at := range 4 {
			for _, code := range []api.Code{api.ErrCut, api.ErrArg, api.ErrForm, api.ErrWeight} {
				c := failed("abc", at, code)
				if !ask(c) {
					t.Errorf("%s of a cursor at %d with error %d reads", name, at, code)
				}
				wantState(t, name, c, state{at, 3 - at, code, 0, false, code})
			}
		}
	}
}

// 1.2: errors that reading makes stay as those do that it is told of.
func TestOwnErrorStays(t *testing.T) {
	c := cursor.New("ab")
	c.Take(3)
	c.Take(-1)
	c.Fail(api.ErrForm)
	wantState(t, "cut first", c, state{0, 2, api.ErrCut, 0, false, api.ErrCut})
	d := cursor.New("ab")
	d.Take(-1)
	d.Take(3)
	wantState(t, "a wrong number first", d, state{0, 2, api.ErrArg, 0, false, api.ErrArg})
}

// 1.2: Fail gives the error that it is told, whatever its number is; OK is none.
func TestFail(t *testing.T) {
	for _, code := range []api.Code{api.ErrCut, api.ErrTail, api.ErrNone, api.ErrBatch, api.ErrSize, api.ErrWeight, 17, 99, -1, math.MaxInt, math.MinInt} {
		wantState(t, "failed", failed("ab", 1, code), state{1, 1, code, 0, false, code})
	}
	c := cursor.New("ab")
	c.Fail(api.OK)
	wantState(t, "Fail(OK)", c, state{0, 2, api.OK, 'a', true, api.ErrTail})
	c.Fail(api.ErrForm)
	wantState(t, "an error behind Fail(OK)", c, state{0, 2, api.ErrForm, 0, false, api.ErrForm})
}

// 1.2: End tells of bytes that are left, and changes nothing: what is left can be read behind it.
func TestEnd(t *testing.T) {
	c := cursor.New("ab")
	if code := c.End(); code != api.ErrTail {
		t.Error("two left:", code)
	}
	if s := c.Take(1); s != "a" {
		t.Error("behind End:", s)
	}
	if code := c.End(); code != api.ErrTail {
		t.Error("one left:", code)
	}
	c.Byte()
	if code := c.End(); code != api.OK {
		t.Error("none left:", code)
	}
	if code := failed("ab", 2, api.ErrID).End(); code != api.ErrID {
		t.Error("none left, an error:", code)
	}
	if code := failed("ab", 0, api.ErrID).End(); code != api.ErrID {
		t.Error("two left, an error:", code)
	}
}

// 1.3: from each place over each number of bytes: a cursor at the first of these that ends behind the last of these.
func TestSub(t *testing.T) {
	s := "a\x00\xff\xc3\xa9z"
	for at := 0; at <= len(s); at++ {
		for n := 0; at+n <= len(s); n++ {
			c := cursor.New(s)
			c.Take(at)
			x := c.Sub(n)
			if c.At() != at+n || c.Left() != len(s)-at-n || c.Err() != api.OK {
				t.Errorf("at %d, Sub(%d): the whole is at %d, left %d, error %d", at, n, c.At(), c.Left(), c.Err())
			}
			if x == nil || x.At() != at || x.Left() != n || x.Err() != api.OK {
				t.Fatalf("at %d, Sub(%d): %+v", at, n, stateOf(x))
			}
			if got := x.Take(n); got != s[at:at+n] || x.At() != at+n || x.End() != api.OK {
				t.Errorf("at %d, Sub(%d): %q, at %d, end %d", at, n, got, x.At(), x.End())
			}
			wantState(t, "behind the part", x, state{at + n, 0, api.OK, 0, false, api.OK})
			if b := x.Byte(); b != 0 || x.Err() != api.ErrCut {
				t.Errorf("at %d, Sub(%d): beyond its bytes %d, error %d", at, n, b, x.Err())
			}
		}
	}
}

// 1.3: nil, where Take would read nothing because of an error; the cursor has that error then, and stays.
func TestSubOfWrong(t *testing.T) {
	for _, one := range []struct {
		n    int
		code api.Code
	}{{-1, api.ErrArg}, {-2, api.ErrArg}, {3, api.ErrCut}, {4, api.ErrCut}} {
		c := cursor.New("abc")
		c.Byte()
		if x := c.Sub(one.n); x != nil {
			t.Errorf("Sub(%d): %+v", one.n, stateOf(x))
		}
		wantState(t, "behind Sub", c, state{1, 2, one.code, 0, false, one.code})
	}
	c := cursor.New("")
	if x := c.Sub(1); x != nil || c.Err() != api.ErrCut {
		t.Error("of no bytes:", x, c.Err())
	}
}

// 1.3: a part of a part has bounds within the part's, and the whole text's places.
func TestSubOfSub(t *testing.T) {
	c := cursor.New("0123456789")
	c.Take(2)
	x := c.Sub(6)
	x.Byte()
	y := x.Sub(3)
	wantState(t, "the whole", c, state{8, 2, api.OK, '8', true, api.ErrTail})
	wantState(t, "the part", x, state{6, 2, api.OK, '6', true, api.ErrTail})
	wantState(t, "the part's part", y, state{3, 3, api.OK, '3', true, api.ErrTail})
	if z := x.Sub(3); z != nil || x.Err() != api.ErrCut || x.At() != 6 {
		t.Error("beyond the part, within the whole:", z, x.Err(), x.At())
	}
	if s := y.Take(4); s != "" || y.Err() != api.ErrCut {
		t.Error("beyond the part's part:", s, y.Err())
	}
	if s := c.Take(2); s != "89" || c.End() != api.OK {
		t.Error("behind the part:", s, c.End())
	}
}

// 1.3: what happens to the one is not seen at the other.
func TestSubApart(t *testing.T) {
	c := cursor.New("abcdef")
	x := c.Sub(3)
	x.Byte()
	x.Fail(api.ErrForm)
	wantState(t, "the whole, when the part fails", c, state{3, 3, api.OK, 'd', true, api.ErrTail})
	y := c.Sub(2)
	c.Byte()
	c.Fail(api.ErrRange)
	wantState(t, "the part, when the whole fails", y, state{3, 2, api.OK, 'd', true, api.ErrTail})
	if s := y.Take(2); s != "de" || y.End() != api.OK {
		t.Error("the part, when the whole fails:", s, y.End())
	}
	wantState(t, "the whole that failed", c, state{6, 0, api.ErrRange, 0, false, api.ErrRange})
	wantState(t, "the part that failed", x, state{1, 2, api.ErrForm, 0, false, api.ErrForm})
}

// 1.4: a nil cursor, before and behind Fail.
func TestNil(t *testing.T) {
	var c *cursor.Cursor
	for range 2 {
		wantState(t, "nil", c, state{0, 0, api.ErrNone, 0, false, api.ErrNone})
		if b := c.Byte(); b != 0 {
			t.Error("Byte:", b)
		}
		for _, n := range []int{math.MinInt, -1, 0, 1, math.MaxInt} {
			if s := c.Take(n); s != "" {
				t.Errorf("Take(%d): %q", n, s)
			}
			if x := c.Sub(n); x != nil {
				t.Errorf("Sub(%d): %+v", n, stateOf(x))
			}
		}
		c.Fail(api.ErrForm)
		c.Fail(api.OK)
	}
}

// R3: what was answered stays as it is, while the cursor goes on.
func TestAnswersStay(t *testing.T) {
	c := cursor.New("abcdef")
	s, x := c.Take(2), c.Sub(2)
	c.Take(2)
	c.Byte()
	if s != "ab" {
		t.Error(s)
	}
	wantState(t, "the part", x, state{2, 2, api.OK, 'c', true, api.ErrTail})
}

// P0: no call panics, whatever calls went ahead of it, and no cursor leaves its bounds.
func TestAnyCalls(t *testing.T) {
	calls := []func(*cursor.Cursor) *cursor.Cursor{
		func(c *cursor.Cursor) *cursor.Cursor { c.Byte(); return c },
		func(c *cursor.Cursor) *cursor.Cursor { c.Take(-1); return c },
		func(c *cursor.Cursor) *cursor.Cursor { c.Take(2); return c },
		func(c *cursor.Cursor) *cursor.Cursor { c.Fail(api.ErrForm); return c },
		func(c *cursor.Cursor) *cursor.Cursor { c.Fail(api.OK); return c },
		func(c *cursor.Cursor) *cursor.Cursor { return c.Sub(0) },
		func(c *cursor.Cursor) *cursor.Cursor { return c.Sub(1) },
		func(c *cursor.Cursor) *cursor.Cursor { return c.Sub(3) },
		func(c *cursor.Cursor) *cursor.Cursor { return c.Sub(math.MaxInt) },
	}
	for _, s := range []string{"", "a", "ab", "abcd"} {
		for i := range 9 * 9 * 9 * 9 {
			c, rest := cursor.New(s), i
			for range 4 {
				c, rest = calls[rest%9](c), rest/9
			}
			at, left := c.At(), c.Left()
			next, is := c.Peek()
			if at < 0 || left < 0 || at+left > len(s) || is != (c.Err() == api.OK && left > 0) || is && next != s[at] {
				t.Fatalf("calls %d of %q: %+v", i, s, stateOf(c))
			}
		}
	}
}
