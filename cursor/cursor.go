// Package cursor is layer 01: see shared/doc/01-cursor.md.
package cursor

import (
	"truchman/api"
)

// Cursor reads bytes.
type Cursor struct {
	text string // the whole text, of a cursor within another one too: places are counted from its beginning
	at   int
	end  int
	err  api.Code
}

// New tells a cursor at a text's first byte.
func New(s string) *Cursor {
	return &Cursor{text: s, end: len(s)}
}

// At tells the place of the next byte.
func (c *Cursor) At() int {
	if c == nil {
		return 0
	}
	return c.at
}

// Left tells how many bytes are left.
func (c *Cursor) Left() int {
	if c == nil {
		return 0
	}
	return c.end - c.at
}

// Err tells what was wrong first.
func (c *Cursor) Err() api.Code {
	if c == nil {
		return api.ErrNone
	}
	return c.err
}

// Fail tells the cursor what is wrong.
func (c *Cursor) Fail(code api.Code) {
	if c.Err() == api.OK {
		c.err = code
	}
}

// Byte reads a byte.
func (c *Cursor) Byte() byte {
	b, is := c.Peek()
	if !is {
		c.Fail(api.ErrCut)
		return 0
	}
	c.at++
	return b
}

// Peek tells the next byte, and stays.
func (c *Cursor) Peek() (byte, bool) {
	if c.Err() != api.OK || c.Left() == 0 {
		return 0, false
	}
	return c.text[c.at], true
}

// Take reads so many bytes.
func (c *Cursor) Take(n int) string {
	return read(c, n, c.passText)
}

// Sub tells a cursor over the next bytes, and goes past them.
func (c *Cursor) Sub(n int) *Cursor {
	return read(c, n, c.passCursor)
}

// End tells whether all was read, and rightly.
func (c *Cursor) End() api.Code {
	if c.Err() == api.OK && c.Left() > 0 {
		return api.ErrTail
	}
	return c.Err()
}

// read tells what pass, a method of c, makes of the next n bytes. Whether these may be read is decided here, so that
// such a method need not ask.
func read[T any](c *Cursor, n int, pass func(int) T) T {
	var nothing T
	if !c.allows(n) {
		return nothing
	}
	return pass(n)
}

// allows tells whether n bytes may be read; if not, c has an error then.
func (c *Cursor) allows(n int) bool {
	if n < 0 {
		c.Fail(api.ErrArg)
	} else if n > c.Left() {
		c.Fail(api.ErrCut)
	}
	return c.Err() == api.OK
}

// passText goes past n bytes, and tells them.
func (c *Cursor) passText(n int) string {
	from := c.at
	c.at += n
	return c.text[from:c.at]
}

// passCursor goes past n bytes, and tells a cursor over them.
func (c *Cursor) passCursor(n int) *Cursor {
	from := c.at
	c.at += n
	return &Cursor{text: c.text, at: from, end: c.at}
}
