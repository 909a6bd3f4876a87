package cwrite_test

import (
	"math"
	"math/big"
	"math/rand"
	"slices"
	"strconv"
	"strings"
	"testing"
	"time"

	"truchman/api"
	"truchman/chead"
	"truchman/cread"
	"truchman/cwrite"
)

// deepest is how many structs and lists may stand within each other.
const deepest = 32

// many is the greatest count of a list's values.
const many = 1<<31 - 1

// The kinds, written out.
const (
	isTrue   = 1
	isFalse  = 2
	isByte   = 3
	isI16    = 4
	isI32    = 5
	isI64    = 6
	isDouble = 7
	isText   = 8
	isList   = 9
	isSet    = 10
	isMap    = 11
	isStruct = 12
)

// kinds are all of them.
var kinds = []byte{1, 2, 3, 4, 5, 6, 7, 8, 9, 10, 11, 12}

// wholes are the kinds of numbers, with how many bits each has.
var wholes = []struct {
	kind byte
	bits uint
}{{isByte, 8}, {isI16, 16}, {isI32, 32}, {isI64, 64}}

// ids are numbers that a field may have, at both ends of what so many bytes say, and of all.
var ids = []int{0, 1, 2, 14, 15, 16, 17, 30, 31, 63, 64, 100, 8191, 8192, 32766, 32767, -1, -2, -14, -15, -16, -17, -64, -65, -8192, -8193, -32767, -32768}

// noIDs are numbers that no field has.
var noIDs = []int{32768, 32769, 65535, 65536, 65537, math.MaxInt32, math.MaxInt32 + 2, math.MaxInt - 1, math.MaxInt, -32769, -32770, -65535, -65536, math.MinInt32, math.MinInt + 1, math.MinInt}

// doubles are bits of doubles.
var doubles = []uint64{0, 1, 127, 128, 255, 256, 0x3ff0000000000000, 0x0102030405060708, 0x8877665544332211, 1 << 63, math.MaxUint64, math.Float64bits(math.NaN()), math.Float64bits(math.Inf(-1)), 0x7ff0000000000001}

// texts are bytes of texts: none, one and many, up to sizes that have a byte more, of characters and of others.
var texts = []string{"", "a", "\x00", "\x80", "\xff\xfe", "abc\x00\x0c", "\xe2\x82\xac", "\xe2\x82", "\xed\xa0\x80", strings.Repeat("x", 127), strings.Repeat("\x80", 128), strings.Repeat("y", 16383), strings.Repeat("\x00", 16384)}

// what are the calls of a writer.
type what int

const (
	begins what = iota
	lists
	ends
	flags
	counts
	doubled
	says
)

// call is one of them, with what it is given.
type call struct {
	what what
	id   int
	n    int
	kind byte
	is   bool
	bits uint64
	s    string
}

// The calls, each of what it is given.
func aStruct(id int) call                  { return call{what: begins, id: id} }
func aList(id, n int, kind byte) call      { return call{what: lists, id: id, n: n, kind: kind} }
func anEnd() call                          { return call{what: ends} }
func aFlag(id int, is bool) call           { return call{what: flags, id: id, is: is} }
func aWhole(id int, kind byte, n int) call { return call{what: counts, id: id, kind: kind, n: n} }
func aDouble(id int, bits uint64) call     { return call{what: doubled, id: id, bits: bits} }
func aText(id int, s string) call          { return call{what: says, id: id, s: s} }

// do tells a writer of the program.
func do(w *cwrite.Writer, l ...call) {
	for _, c := range l {
		switch c.what {
		case begins:
			w.Struct(c.id)
		case lists:
			w.List(c.id, c.n, c.kind)
		case ends:
			w.End()
		case flags:
			w.Flag(c.id, c.is)
		case counts:
			w.Whole(c.id, c.kind, c.n)
		case doubled:
			w.Double(c.id, c.bits)
		case says:
			w.Text(c.id, c.s)
		}
	}
}

// join puts calls one behind the other.
func join(all ...[]call) []call {
	return slices.Concat(all...)
}

// row tells calls as a list.
func row(l ...call) []call {
	return l
}

// within tells calls within a struct that is a field, or a value, of a number.
func within(id int, l ...call) []call {
	return join(row(aStruct(id)), l, row(anEnd()))
}

// listed tells calls within a list of so many values of a kind.
func listed(id, n int, kind byte, l ...call) []call {
	return join(row(aList(id, n, kind)), l, row(anEnd()))
}

// begun tells calls that begin so many structs, one within the other.
func begun(n int) []call {
	return slices.Repeat(row(aStruct(1)), n)
}

// ended tells so many calls that end something.
func ended(n int) []call {
	return slices.Repeat(row(anEnd()), n)
}

// want asks a writer, twice, for what it wrote.
func want(t *testing.T, w *cwrite.Writer, s string, code api.Code) {
	t.Helper()
	for range 2 {
		if got, c := w.Done(); got != s || c != code {
			t.Fatalf("%.300q, %d; want %.300q, %d", got, c, s, code)
		}
	}
}

// wantBytes tells a new writer, and asks for its bytes.
func wantBytes(t *testing.T, s string, l ...call) {
	t.Helper()
	w := cwrite.New()
	do(w, l...)
	want(t, w, s, api.OK)
}

// behinds are calls that could do something behind an error, were it not for that.
var behinds = join(ended(40), within(1, aText(1, "a")), row(aList(1, 0, 99), aWhole(1, isText, 1), aWhole(1, isByte, 128)), ended(2), begun(40))

// wantError tells a new writer, and asks for its error, which stays, and has been none up to the last call.
func wantError(t *testing.T, code api.Code, l ...call) {
	t.Helper()
	w := cwrite.New()
	last := len(l) - 1
	do(w, l[:last]...)
	if _, got := w.Done(); got != api.OK && got != api.ErrCut {
		t.Fatalf("%.300v: %d, ahead of the last call", l, got)
	}
	do(w, l[last])
	want(t, w, "", code)
	for _, c := range behinds {
		do(w, c)
		want(t, w, "", code)
	}
}

// one tells a text of one byte.
func one(b byte) string {
	return string([]byte{b})
}

// sevens tells a number's bytes by its digits to the base 2: cut by sevens from the right, with a digit 1 ahead of each
// but those that stand leftmost.
func sevens(u uint64) string {
	digits := strconv.FormatUint(u, 2)
	var l []byte
	for len(digits) > 0 {
		cut := max(0, len(digits)-7)
		seven, _ := strconv.ParseUint(digits[cut:], 2, 8)
		if cut > 0 {
			seven += 128
		}
		l = append(l, byte(seven))
		digits = digits[:cut]
	}
	return string(l)
}

// folded tells the bytes of a number with a sign: twice it, or, below 0, twice what it is without the sign, less 1.
func folded(n int) string {
	twice := new(big.Int).Mul(big.NewInt(int64(n)), big.NewInt(2))
	if twice.Sign() < 0 {
		twice.Neg(twice)
		twice.Sub(twice, big.NewInt(1))
	}
	return sevens(twice.Uint64())
}

// lowFirst tells the eight bytes of a number by its digits to the base 16, two by two from the right.
func lowFirst(u uint64) string {
	digits := strconv.FormatUint(u, 16)
	digits = strings.Repeat("0", 16-len(digits)) + digits
	var l []byte
	for i := 14; i >= 0; i -= 2 {
		b, _ := strconv.ParseUint(digits[i:i+2], 16, 8)
		l = append(l, byte(b))
	}
	return string(l)
}

// wholeBytes tells the bytes of a whole number of a kind.
func wholeBytes(kind byte, n int) string {
	if kind == isByte {
		return one(byte(n))
	}
	return folded(n)
}

// headOf tells the head of a field behind one of a number.
func headOf(last, id int, kind byte) string {
	if above := id - last; above >= 1 && above <= 15 {
		return one(byte(above*16) + kind)
	}
	return one(kind) + folded(id)
}

// headOfList tells the head of a list.
func headOfList(n int, kind byte) string {
	if n <= 14 {
		return one(byte(n*16) + kind)
	}
	return one(240+kind) + sevens(uint64(n))
}

// lowest and greatest bound the numbers of so many bits.
func lowest(bits uint) int   { return math.MinInt >> (64 - bits) }
func greatest(bits uint) int { return math.MaxInt >> (64 - bits) }

// apart tells what is written of calls, made apart from the program: it goes into what was begun by calling itself, and
// lays the heads when it has all that stands behind them.
type apart struct {
	l    []call
	code api.Code
}

// place is where a value stands: within nothing, a struct, or a list of so many values of a kind.
type place struct {
	in   byte
	n    int
	kind byte
}

// value is one that was written, as a field of a number, with its bytes as a field and as a list's value.
type value struct {
	id   int
	kind byte
	own  string
	item string
}

// bytesOf tells what is written of calls, and the code.
func bytesOf(l []call) (string, api.Code) {
	a := apart{l: l}
	s := a.inside(0, place{})
	if a.code != api.OK {
		return "", a.code
	}
	return s, api.OK
}

// inside tells the bytes of all that stands at a place, within deep others.
func (a *apart) inside(deep int, p place) string {
	var l []value
	for len(a.l) > 0 {
		c := a.l[0]
		a.l = a.l[1:]
		if c.what == ends {
			if p.in == 0 || p.in == isList && len(l) != p.n {
				a.code = api.ErrOrder
			}
			return laid(p, l)
		}
		if a.code = wrong(c, deep, p, len(l)); a.code != api.OK {
			return ""
		}
		l = append(l, a.value(c, deep))
		if a.code != api.OK {
			return ""
		}
	}
	if p.in != 0 {
		a.code = api.ErrCut
	}
	return laid(p, l)
}

// wrong tells what is wrong with a call, as the chapter lists it.
func wrong(c call, deep int, p place, count int) api.Code {
	kind := kindOf(c)
	begins := c.what == begins || c.what == lists
	is := slices.IndexFunc(wholes, func(w struct {
		kind byte
		bits uint
	}) bool {
		return w.kind == c.kind
	})
	for _, x := range []struct {
		is   bool
		code api.Code
	}{
		{begins && deep == deepest, api.ErrDeep},
		{c.what == lists && (c.n < 0 || c.n > many || c.kind == 0 || c.kind > isStruct), api.ErrRange},
		{c.what == counts && is < 0, api.ErrKind},
		{c.what == counts && is >= 0 && (c.n < lowest(wholes[max(is, 0)].bits) || c.n > greatest(wholes[max(is, 0)].bits)), api.ErrRange},
		{p.in == 0 && c.what != 0, api.ErrOrder},
		{p.in == isList && (count == p.n || kind != p.kind && (kind > isFalse || p.kind > isFalse)), api.ErrOrder},
		{p.in == isStruct && (c.id < -32768 || c.id > 32767), api.ErrRange},
	} {
		if x.is {
			return x.code
		}
	}
	return api.OK
}

// kindOf tells the kind of the value that a call writes.
func kindOf(c call) byte {
	switch {
	case c.what == begins:
		return isStruct
	case c.what == lists:
		return isList
	case c.what == flags && c.is:
		return isTrue
	case c.what == flags:
		return isFalse
	case c.what == doubled:
		return isDouble
	case c.what == says:
		return isText
	}
	return c.kind
}

// value tells the value that a call writes, or begins, within deep others.
func (a *apart) value(c call, deep int) value {
	v := value{id: c.id, kind: kindOf(c)}
	switch c.what {
	case begins:
		v.own = a.inside(deep+1, place{in: isStruct})
	case lists:
		v.own = a.inside(deep+1, place{in: isList, n: c.n, kind: c.kind})
	case flags:
		v.item = map[bool]string{true: "\x01", false: "\x02"}[c.is]
		return v
	case counts:
		v.own = wholeBytes(c.kind, c.n)
	case doubled:
		v.own = lowFirst(c.bits)
	case says:
		v.own = sevens(uint64(len(c.s))) + c.s
	}
	v.item = v.own
	return v
}

// laid tells the bytes of the values at a place, with their heads, or the list's.
func laid(p place, l []value) string {
	var b strings.Builder
	if p.in == isList {
		b.WriteString(headOfList(len(l), p.kind))
	}
	last := 0
	for _, v := range l {
		if p.in != isStruct {
			b.WriteString(v.item)
			continue
		}
		b.WriteString(headOf(last, v.id, v.kind) + v.own)
		last = v.id
	}
	if p.in == isStruct {
		b.WriteString("\x00")
	}
	return b.String()
}

// wantAsApart tells a new writer, and asks it at each place for what is made apart.
func wantAsApart(t *testing.T, l []call) {
	t.Helper()
	w := cwrite.New()
	for i := range len(l) + 1 {
		s, code := bytesOf(l[:i])
		if got, c := w.Done(); got != s || c != code {
			t.Fatalf("%.500v: %.200q, %d; want %.200q, %d", l[:i], got, c, s, code)
		}
		if i < len(l) {
			do(w, l[i])
		}
	}
}

// wantAtEnd likewise, but asks at the end alone.
func wantAtEnd(t *testing.T, l []call) {
	t.Helper()
	w := cwrite.New()
	do(w, l...)
	s, code := bytesOf(l)
	if got, c := w.Done(); got != s || c != code {
		t.Fatalf("%.500v: %.200q, %d; want %.200q, %d", l, got, c, s, code)
	}
}

// written are calls, with their bytes, written out.
var written = []struct {
	l []call
	s string
}{
	{nil, ""},
	{within(0), "\x00"},
	{within(0, aWhole(1, isI64, 5)), "\x16\x0a\x00"},
	{join(within(0), within(0)), "\x00\x00"},
	{join(within(0, aWhole(1, isI64, 5)), within(7, aWhole(1, isI64, 5)), within(-1, aWhole(16, isI64, -1))), "\x16\x0a\x00\x16\x0a\x00\x06\x20\x01\x00"},
	{within(0, aFlag(1, true), aFlag(2, false), aFlag(4, true), aFlag(4, false)), "\x11\x12\x21\x02\x08\x00"},
	{within(0, aWhole(15, isByte, -1), aWhole(30, isByte, 1), aWhole(46, isByte, 127), aWhole(-1, isByte, -128), aWhole(0, isByte, 0)), "\xf3\xff\xf3\x01\x03\x5c\x7f\x03\x01\x80\x13\x00\x00"},
	{within(0, aWhole(1, isI16, -32768), aWhole(2, isI32, 2147483647), aWhole(3, isI64, -65)), "\x14\xff\xff\x03\x15\xfe\xff\xff\xff\x0f\x16\x81\x01\x00"},
	{within(0, aDouble(1, 0x8877665544332211), aDouble(2, 1)), "\x17\x11\x22\x33\x44\x55\x66\x77\x88\x17\x01\x00\x00\x00\x00\x00\x00\x00\x00"},
	{within(0, aText(1, ""), aText(2, "\xff\x00"), aText(300, "abc")), "\x18\x00\x18\x02\xff\x00\x08\xd8\x04\x03abc\x00"},
	{within(0, aText(32767, "a"), aText(-32768, "b"), aText(-32767, "c")), "\x08\xfe\xff\x03\x01a\x08\xff\xff\x03\x01b\x18\x01c\x00"},
	{within(0, join(within(1), row(aText(2, "a")), within(3, aText(9, "b")), row(aText(4, "c")))...), "\x1c\x00\x18\x01a\x1c\x98\x01b\x00\x18\x01c\x00"},
	{within(0, join(listed(2, 0, isText), row(aText(3, "a")), listed(4, 2, isI32, aWhole(9, isI32, 1), aWhole(-70000, isI32, -1)), row(aText(6, "b")))...), "\x29\x08\x18\x01a\x19\x25\x02\x01\x28\x01b\x00"},
	{within(0, listed(1, 3, isTrue, aFlag(0, true), aFlag(0, false), aFlag(0, true))...), "\x19\x31\x01\x02\x01\x00"},
	{within(0, listed(1, 2, isFalse, aFlag(0, false), aFlag(0, true))...), "\x19\x22\x02\x01\x00"},
	{within(0, listed(1, 2, isStruct, join(within(5, aText(1, "a")), within(5, aText(1, "b")))...)...), "\x19\x2c\x18\x01a\x00\x18\x01b\x00\x00"},
	{within(0, listed(1, 2, isList, join(listed(5, 1, isByte, aWhole(0, isByte, 7)), listed(5, 0, isSet))...)...), "\x19\x29\x13\x07\x0a\x00"},
	{within(0, listed(1, 14, isByte, slices.Repeat(row(aWhole(0, isByte, 9)), 14)...)...), "\x19\xe3" + strings.Repeat("\x09", 14) + "\x00"},
	{within(0, listed(1, 15, isByte, slices.Repeat(row(aWhole(0, isByte, 9)), 15)...)...), "\x19\xf3\x0f" + strings.Repeat("\x09", 15) + "\x00"},
	{within(0, listed(1, 128, isStruct, slices.Repeat(within(0), 128)...)...), "\x19\xfc\x80\x01" + strings.Repeat("\x00", 128) + "\x00"},
	{join(begun(3), ended(3)), "\x1c\x1c\x00\x00\x00"},
}

// 23.1 and 23.3: structs, written out.
func TestWritten(t *testing.T) {
	for _, x := range written {
		wantBytes(t, x.s, x.l...)
	}
}

// wrongs are calls with the error that the last one of them gives.
var wrongs = []struct {
	l    []call
	code api.Code
}{
	{row(anEnd()), api.ErrOrder},
	{row(aFlag(1, true)), api.ErrOrder},
	{row(aStruct(0)), api.ErrCut},
	{row(aStruct(0), aText(1<<15, "")), api.ErrRange},
	{row(aStruct(0), aList(1, -1, isText)), api.ErrRange},
	{row(aStruct(0), aWhole(1, isText, 1)), api.ErrKind},
	{row(aStruct(0), aWhole(1, isByte, 128)), api.ErrRange},
	{row(aStruct(0), aList(1, 1, isText), anEnd()), api.ErrOrder},
	{row(aStruct(0), aList(1, 1, isText), aFlag(1, true)), api.ErrOrder},
	{row(aStruct(0), aList(1, 0, isText), aText(1, "")), api.ErrOrder},
	{begun(33), api.ErrDeep},
}

// What the tests hold the program against is itself what is written out.
func TestMadeApart(t *testing.T) {
	for _, x := range written {
		if s, code := bytesOf(x.l); s != x.s || code != api.OK {
			t.Errorf("%v: %q, %d; want %q", x.l, s, code, x.s)
		}
	}
	for _, x := range wrongs {
		if s, code := bytesOf(x.l); s != "" || code != x.code {
			t.Errorf("%v: %q, %d; want %d", x.l, s, code, x.code)
		}
	}
}

// 23.2 and 23.3: errors, written out.
func TestWrong(t *testing.T) {
	for _, x := range wrongs {
		w := cwrite.New()
		do(w, x.l...)
		want(t, w, "", x.code)
	}
}

// 23.1 and 23.3: a writer that was told nothing, which is another one each time.
func TestNew(t *testing.T) {
	w, x := cwrite.New(), cwrite.New()
	if w == nil || x == nil || w == x {
		t.Fatal(w, x)
	}
	want(t, w, "", api.OK)
	do(w, within(0, aText(1, "a"))...)
	want(t, x, "", api.OK)
	want(t, w, "\x18\x01a\x00", api.OK)
	do(x, anEnd())
	want(t, x, "", api.ErrOrder)
	want(t, w, "\x18\x01a\x00", api.OK)
	want(t, cwrite.New(), "", api.OK)
}

// 23.3: of a nil writer Done is ErrNone, whatever it is told.
func TestNil(t *testing.T) {
	var w *cwrite.Writer
	want(t, w, "", api.ErrNone)
	for _, x := range written {
		do(w, x.l...)
		want(t, w, "", api.ErrNone)
	}
	for _, x := range wrongs {
		do(w, x.l...)
		want(t, w, "", api.ErrNone)
	}
	do(w, behinds...)
	want(t, w, "", api.ErrNone)
}

// 23.1: the kinds are chead's, by their names.
func TestNames(t *testing.T) {
	w := cwrite.New()
	w.Struct(0)
	w.Whole(1, chead.Byte, 1)
	w.Whole(2, chead.I16, 1)
	w.Whole(3, chead.I32, 1)
	w.Whole(4, chead.I64, 1)
	for i, kind := range []byte{chead.True, chead.False, chead.Byte, chead.I16, chead.I32, chead.I64, chead.Double, chead.Text, chead.List, chead.Set, chead.Map, chead.Struct} {
		w.List(i+5, 0, kind)
		w.End()
	}
	w.End()
	want(t, w, "\x13\x01\x14\x02\x15\x02\x16\x02\x19\x01\x19\x02\x19\x03\x19\x04\x19\x05\x19\x06\x19\x07\x19\x08\x19\x09\x19\x0a\x19\x0b\x19\x0c\x00", api.OK)
}

// 23.1: each number of a field behind each other one, and behind itself.
func TestHeads(t *testing.T) {
	for _, last := range ids {
		for _, id := range ids {
			wantBytes(t, headOf(0, last, isTrue)+headOf(last, id, isByte)+"\x05"+headOf(id, last, isText)+"\x01a\x00", within(0, aFlag(last, true), aWhole(id, isByte, 5), aText(last, "a"))...)
		}
	}
}

// 23.1: each distance between two numbers, up to well beyond what four bits say, both ways.
func TestDistances(t *testing.T) {
	for _, last := range []int{0, 1, 100, -20, 32767, 32740, -32768} {
		for by := -40; by <= 40; by++ {
			if id := last + by; id >= -32768 && id <= 32767 {
				wantBytes(t, headOf(0, last, isText)+"\x00"+headOf(last, id, isDouble)+lowFirst(9)+"\x00", within(0, aText(last, ""), aDouble(id, 9))...)
			}
		}
	}
}

// 23.1: each number of a field that there is, behind 0.
func TestAllNumbers(t *testing.T) {
	for id := -32768; id <= 32767; id++ {
		wantBytes(t, headOf(0, id, isTrue)+"\x00", within(0, aFlag(id, true))...)
	}
}

// some tells values of each kind, as calls, with the number of a field that they are to have.
func some(id int) [][]call {
	l := [][]call{row(aFlag(id, true)), row(aFlag(id, false))}
	for _, x := range wholes {
		for _, n := range []int{0, 1, -1, lowest(x.bits), greatest(x.bits)} {
			l = append(l, row(aWhole(id, x.kind, n)))
		}
	}
	for _, bits := range doubles {
		l = append(l, row(aDouble(id, bits)))
	}
	for _, s := range texts {
		l = append(l, row(aText(id, s)))
	}
	l = append(l, within(id), within(id, aText(7, "a"), aFlag(40, true), aFlag(39, false)))
	for _, kind := range kinds {
		l = append(l, listed(id, 0, kind))
	}
	l = append(l, listed(id, 2, isText, aText(7, "a"), aText(70000, "b")), listed(id, 1, isList, listed(3, 1, isStruct, within(3, aText(9, ""))...)...))
	return l
}

// 23.1: a value of each kind as the only field, and among others, with each number.
func TestFields(t *testing.T) {
	for _, id := range ids {
		for _, l := range some(id) {
			wantAtEnd(t, within(0, l...))
			wantAtEnd(t, within(0, join(row(aText(1, "a")), l, l, row(aText(id, "b")), l, row(aText(16, "c")))...))
		}
	}
}

// 23.1: behind the end of what stands within, a field stands behind that one's number, not behind those within it.
func TestBehindWithin(t *testing.T) {
	for _, last := range ids {
		for _, inner := range ids {
			wantBytes(t, headOf(0, last, isStruct)+headOf(0, inner, isTrue)+"\x00"+headOf(last, 5, isTrue)+"\x00", within(0, join(within(last, aFlag(inner, true)), row(aFlag(5, true)))...)...)
			wantBytes(t, headOf(0, last, isList)+"\x11\x01"+headOf(last, 5, isTrue)+"\x00", within(0, join(listed(last, 1, isTrue, aFlag(inner, true)), row(aFlag(5, true)))...)...)
			wantBytes(t, headOf(0, last, isList)+"\x1c"+headOf(0, inner, isText)+"\x01a\x00"+headOf(last, inner, isTrue)+"\x00", within(0, join(listed(last, 1, isStruct, within(inner, aText(inner, "a"))...), row(aFlag(inner, true)))...)...)
		}
	}
}

// 23.1: structs one behind the other, in each of which numbers begin at 0, within nothing, and within a list.
func TestNumbersBeginAnew(t *testing.T) {
	for _, first := range ids {
		for _, second := range ids {
			a, b := headOf(0, first, isText)+"\x01a\x00", headOf(0, second, isText)+"\x01b\x00"
			both := join(within(0, aText(first, "a")), within(0, aText(second, "b")))
			wantBytes(t, a+b, both...)
			wantBytes(t, "\x19\x2c"+a+b+"\x00", within(0, listed(1, 2, isStruct, both...)...)...)
		}
	}
}

// anything are numbers that do not matter: those of fields, and others.
var anything = slices.Concat(ids, noIDs)

// 23.1: where nothing was begun that did not end the number of a struct does not matter; nor does that of a list's value.
func TestNumberDoesNotMatter(t *testing.T) {
	for _, id := range anything {
		wantBytes(t, "\x00\x18\x01a\x00", join(within(id), within(id, aText(1, "a")))...)
		for i, l := range some(id) {
			plain := some(0)[i]
			kind := kindOf(l[0])
			s, code := bytesOf(within(0, listed(1, 1, kind, plain...)...))
			if code != api.OK {
				t.Fatal(plain, code)
			}
			wantBytes(t, s, within(0, listed(1, 1, kind, l...)...)...)
		}
	}
}

// 23.1: a truth is a byte within a list of either truth's kind, and nothing but its kind as a field.
func TestFlag(t *testing.T) {
	for _, kind := range []byte{isTrue, isFalse} {
		for _, n := range []int{0, 1, 2, 14, 15, 200} {
			for _, turn := range []int{1, 2, 3} {
				var l []call
				s := headOfList(n, kind)
				for i := range n {
					is := i%turn == 0
					l = append(l, aFlag(i, is))
					s += map[bool]string{true: "\x01", false: "\x02"}[is]
				}
				wantBytes(t, "\x11\x12\x19"+s+"\x12\x11\x00", within(0, join(row(aFlag(1, true), aFlag(2, false)), listed(3, n, kind, l...), row(aFlag(4, false), aFlag(5, true)))...)...)
			}
		}
	}
}

// aroundPowers are numbers about each power of two, and about 0.
func aroundPowers() []int {
	var l []int
	for bits := range 64 {
		for by := -2; by <= 2; by++ {
			l = append(l, int(uint64(1)<<bits)+by, -int(uint64(1)<<bits)+by)
		}
	}
	return l
}

// wantWhole tells a number as a field and as a list's value; it has these bytes, or is out of range, also where nothing
// was begun.
func wantWhole(t *testing.T, kind byte, n int, is bool) {
	t.Helper()
	c := aWhole(1, kind, n)
	if !is {
		wantError(t, api.ErrRange, aStruct(0), c)
		wantError(t, api.ErrRange, aStruct(0), aList(1, 2, kind), c)
		wantError(t, api.ErrRange, c)
		return
	}
	s := wholeBytes(kind, n)
	wantBytes(t, one(16+kind)+s+"\x18\x01a\x00", within(0, c, aText(2, "a"))...)
	wantBytes(t, "\x19"+one(32+kind)+s+s+"\x00", within(0, listed(1, 2, kind, c, c)...)...)
	wantError(t, api.ErrOrder, c)
}

// 23.1 and 23.2: each number that a byte is, and those beyond.
func TestByte(t *testing.T) {
	for n := -300; n <= 300; n++ {
		wantWhole(t, isByte, n, n >= -128 && n <= 127)
	}
}

// 23.1 and 23.2: numbers about each power of two, of each kind, in its range and out of it.
func TestWhole(t *testing.T) {
	for _, n := range aroundPowers() {
		for _, x := range wholes {
			wantWhole(t, x.kind, n, n >= lowest(x.bits) && n <= greatest(x.bits))
		}
	}
}

// 23.1 and 23.2: each number of 16 bits.
func TestAllOf16(t *testing.T) {
	w := cwrite.New()
	w.Struct(0)
	w.List(1, 1<<16, isI16)
	s := "\x19\xf4\x80\x80\x04"
	for n := -32768; n <= 32767; n++ {
		w.Whole(0, isI16, n)
		s += folded(n)
	}
	w.End()
	w.End()
	want(t, w, s+"\x00", api.OK)
}

// 23.2: no other kind is one of a whole number, whatever the number is, and also where it could not be anyway.
func TestWholeKind(t *testing.T) {
	for kind := range 256 {
		if kind >= isByte && kind <= isI64 {
			continue
		}
		for _, n := range []int{0, 1, -1, 127, 128, 1 << 31, math.MaxInt, math.MinInt} {
			for _, id := range []int{1, 32768, math.MinInt} {
				c := aWhole(id, byte(kind), n)
				wantError(t, api.ErrKind, aStruct(0), c)
				wantError(t, api.ErrKind, c)
				wantError(t, api.ErrKind, aStruct(0), aList(1, 0, isText), c)
				if kind >= 1 && kind <= isStruct {
					wantError(t, api.ErrKind, aStruct(0), aList(1, 1, byte(kind)), c)
				}
			}
		}
	}
}

// 23.1: doubles of all bits, the lowest byte first.
func TestDouble(t *testing.T) {
	l := slices.Clone(doubles)
	for i := range 64 {
		l = append(l, 1<<i, math.MaxUint64>>i, math.MaxUint64<<i, 0x0123456789abcdef<<i)
	}
	for _, bits := range l {
		s := lowFirst(bits)
		wantBytes(t, "\x17"+s+"\x18\x01a\x00", within(0, aDouble(1, bits), aText(2, "a"))...)
		wantBytes(t, "\x19\x27"+s+s+"\x00", within(0, listed(1, 2, isDouble, aDouble(1, bits), aDouble(2, bits))...)...)
	}
}

// 23.1: texts of each size about those that have a byte more, and of each byte.
func TestText(t *testing.T) {
	l := slices.Clone(texts)
	for _, end := range []int{0, 1 << 7, 1 << 14, 1 << 21} {
		for size := max(0, end-2); size < end+3; size++ {
			l = append(l, strings.Repeat("z", size))
		}
	}
	for b := range 256 {
		l = append(l, one(byte(b)), "a"+one(byte(b)), one(byte(b))+"\x80")
	}
	for _, text := range l {
		s := sevens(uint64(len(text))) + text
		wantBytes(t, "\x18"+s+"\x18\x01a\x00", within(0, aText(1, text), aText(2, "a"))...)
		wantBytes(t, "\x19\x28"+s+s+"\x00", within(0, listed(1, 2, isText, aText(1, text), aText(2, text))...)...)
	}
}

// fitting tells values of a kind that a list may have, none of Set and of Map, which a writer does not write.
func fitting(kind byte) [][]call {
	var l [][]call
	for _, x := range some(1) {
		if k := kindOf(x[0]); k == kind || k <= isFalse && kind <= isFalse {
			l = append(l, x)
		}
	}
	return l
}

// 23.1: lists of each kind, of nothing, of one thing, of 14, of 15 and more.
func TestList(t *testing.T) {
	for _, kind := range kinds {
		values := fitting(kind)
		for _, n := range []int{0, 1, 2, 13, 14, 15, 16, 127, 128, 300} {
			if n > 0 && (kind == isSet || kind == isMap) {
				continue
			}
			var l []call
			for i := range n {
				x := values[i%len(values)]
				l = append(l, x...)
			}
			wantAtEnd(t, within(0, join(listed(1, n, kind, l...), row(aText(2, "a")))...))
			wantAtEnd(t, within(0, listed(1, 2, isList, join(listed(1, n, kind, l...), listed(1, n, kind, l...))...)...))
			if n > 0 {
				wantError(t, api.ErrOrder, join(row(aStruct(0), aList(1, n+1, kind)), l, row(anEnd()))...)
			}
		}
	}
}

// 23.2: a count that no list's head says, and a kind that is none, within anything.
func TestListHead(t *testing.T) {
	places := [][]call{nil, row(aStruct(0)), row(aStruct(0), aList(1, 1, isList)), row(aStruct(0), aList(1, 0, isList)), row(aStruct(0), aList(1, 5, isText))}
	for _, p := range places {
		for _, n := range []int{-1, -2, -15, math.MinInt32, math.MinInt, many + 1, many + 2, 1 << 32, 1<<32 + 1, math.MaxInt} {
			for _, id := range []int{1, 32768} {
				for _, kind := range kinds {
					wantError(t, api.ErrRange, append(slices.Clone(p), aList(id, n, kind))...)
				}
			}
		}
		for _, n := range []int{0, 1, 14, 15, many, -1} {
			for _, kind := range []byte{0, 13, 14, 15, 16, 17, 24, 128, 129, 136, 255} {
				wantError(t, api.ErrRange, append(slices.Clone(p), aList(1, n, kind))...)
			}
		}
	}
}

// quick asks that something is done soon.
func quick(t *testing.T, do func()) {
	t.Helper()
	done := make(chan bool, 1)
	go func() {
		do()
		done <- true
	}()
	select {
	case <-done:
	case <-time.After(30 * time.Second):
		t.Fatal("not done")
	}
}

// 23.1: the greatest count that a head says, for which no room is made ahead.
func TestGreatestCount(t *testing.T) {
	quick(t, func() {
		for range 200 {
			for _, kind := range kinds {
				w := cwrite.New()
				do(w, aStruct(0), aList(1, many, kind))
				want(t, w, "", api.ErrCut)
				do(w, anEnd())
				want(t, w, "", api.ErrOrder)
			}
		}
	})
}

// 23.1: many values, one by one, take no more than their share each.
func TestMany(t *testing.T) {
	const n = 400000
	quick(t, func() {
		l := row(aStruct(0))
		s := strings.Builder{}
		for range n {
			l = append(l, aWhole(1, isByte, 1), aFlag(2, true))
			s.WriteString("\x13\x01\x11")
			l = append(l, aText(0, ""))
			s.WriteString("\x08\x00\x00")
		}
		wantBytes(t, s.String()+"\x00", append(l, anEnd())...)
	})
	quick(t, func() {
		wantBytes(t, strings.Repeat("\x1c\x00\x0c\x02\x00\x00", n), slices.Repeat(within(0, join(within(1), within(1))...), n)...)
	})
}

// wantDeep tells a writer as many as may be begun, by structs and lists in the order of levels, which are s and l.
func wantDeep(t *testing.T, levels string) {
	t.Helper()
	l := row(aStruct(0))
	for i, level := range levels {
		next := byte(isByte)
		if i+1 < len(levels) {
			next = map[byte]byte{'s': isStruct, 'l': isList}[levels[i+1]]
		}
		if level == 's' {
			l = append(l, aStruct(1))
		} else {
			l = append(l, aList(1, 1, next))
		}
	}
	if len(l) != deepest {
		t.Fatal(levels)
	}
	full := append(slices.Clone(l), aWhole(1, isByte, 7))
	wantAsApart(t, append(slices.Clone(full), ended(deepest)...))
	wantBytes(t, told(t, full), append(slices.Clone(full), ended(deepest)...)...)
	for _, c := range row(aStruct(1), aStruct(32768), aStruct(math.MinInt), aList(1, 0, isText), aList(1, 1, isStruct), aList(1, -1, isText), aList(1, many+1, isText), aList(1, 0, 0), aList(32768, 0, isText), aList(1, 0, 13)) {
		wantError(t, api.ErrDeep, append(slices.Clone(l), c)...)
		wantError(t, api.ErrDeep, append(slices.Clone(full), c)...)
	}
	// Where one ended there is room for one more.
	if levels[len(levels)-1] == 's' && levels[len(levels)-2] == 's' {
		again := append(slices.Clone(l), anEnd(), aStruct(1))
		wantAsApart(t, append(slices.Clone(again), ended(deepest)...))
		wantError(t, api.ErrDeep, append(again, aStruct(1))...)
	}
}

// told tells the bytes of calls whose ends lack.
func told(t *testing.T, l []call) string {
	t.Helper()
	s, code := bytesOf(append(slices.Clone(l), ended(deepest)...))
	if code != api.OK {
		t.Fatal(l, code)
	}
	return s
}

// 23.2: 32 may have been begun and not ended; then Struct and List are ErrDeep, ahead of what else is wrong.
func TestDeep(t *testing.T) {
	for _, levels := range []string{strings.Repeat("s", 31), strings.Repeat("l", 31), strings.Repeat("sl", 16)[:31], strings.Repeat("ls", 16)[:31], strings.Repeat("llss", 8)[:31], strings.Repeat("s", 30) + "l", strings.Repeat("l", 29) + "ss"} {
		wantDeep(t, levels)
	}
	for n := range deepest + 1 {
		l := join(begun(n), ended(n))
		wantAsApart(t, join(l, l, l))
		if n > 0 {
			wantBytes(t, strings.Repeat("\x1c", n-1)+strings.Repeat("\x00", n), l...)
		}
	}
	wantError(t, api.ErrDeep, begun(deepest+1)...)
}

// 23.2: what ended does not count, however many did.
func TestMoreThanDeep(t *testing.T) {
	l := row(aStruct(0))
	s := ""
	for range 100 {
		l = append(l, within(1)...)
		l = append(l, listed(2, 1, isList, listed(1, 0, isMap)...)...)
		s += headOf(0, 1, isStruct) + "\x00\x19\x19\x0b"
		l = append(l, aFlag(0, true))
		s += "\x01\x00"
	}
	wantBytes(t, s+"\x00", append(l, anEnd())...)
	wantBytes(t, strings.Repeat("\x00", 100), slices.Repeat(within(0), 100)...)
}

// 23.2: any value where nothing was begun that did not end, but a struct.
func TestNothingBegun(t *testing.T) {
	for _, ahead := range [][]call{nil, within(0), within(0, aText(1, "a")), within(0, listed(1, 0, isText)...)} {
		for _, id := range []int{0, 1, 32768, math.MinInt} {
			for _, l := range some(id) {
				if kindOf(l[0]) != isStruct {
					wantError(t, api.ErrOrder, append(slices.Clone(ahead), l[0])...)
				}
			}
		}
		wantError(t, api.ErrOrder, append(slices.Clone(ahead), anEnd())...)
	}
}

// 23.2: within a list one value more than it has, and a value of another kind.
func TestListOrder(t *testing.T) {
	for _, kind := range kinds {
		for _, l := range some(1) {
			k := kindOf(l[0])
			if k == kind || k <= isFalse && kind <= isFalse {
				wantAsApart(t, within(0, listed(1, 1, kind, l...)...))
				wantError(t, api.ErrOrder, join(row(aStruct(0), aList(1, 2, kind)), l, row(anEnd()))...)
				wantError(t, api.ErrOrder, join(row(aStruct(0), aList(1, 2, kind)), l, l, row(l[0]))...)
			} else {
				wantError(t, api.ErrOrder, aStruct(0), aList(1, 1, kind), l[0])
			}
			wantError(t, api.ErrOrder, aStruct(0), aList(1, 0, kind), l[0])
			far := slices.Clone(l)
			far[0].id = 32768
			wantError(t, api.ErrOrder, aStruct(0), aList(1, 0, kind), far[0])
		}
		wantError(t, api.ErrOrder, aStruct(0), aList(1, 1, kind), anEnd())
		wantError(t, api.ErrOrder, aStruct(0), aList(1, many, kind), anEnd())
	}
}

// 23.2: a list that lacks values does not end, also not one within another that has all.
func TestListLacks(t *testing.T) {
	for n := 1; n < 40; n++ {
		for has := range n {
			l := slices.Repeat(row(aText(0, "a")), has)
			wantError(t, api.ErrOrder, join(row(aStruct(0), aList(1, n, isText)), l, row(anEnd()))...)
			wantError(t, api.ErrOrder, join(row(aStruct(0), aList(1, 1, isList), aList(1, n, isText)), l, row(anEnd()))...)
			inner := slices.Repeat(listed(0, 1, isText, aText(0, "a")), has)
			wantError(t, api.ErrOrder, join(row(aStruct(0), aList(1, n, isList)), inner, row(anEnd()))...)
		}
	}
}

// 23.2: a field's number that no head says, of a value of each kind, also of a struct and a list.
func TestNoNumber(t *testing.T) {
	for _, id := range noIDs {
		for _, l := range some(id) {
			wantError(t, api.ErrRange, aStruct(0), l[0])
			wantError(t, api.ErrRange, aStruct(id), aText(32767, "a"), l[0])
			wantError(t, api.ErrRange, aStruct(0), aText(-32768, "a"), l[0])
			wantError(t, api.ErrRange, join(row(aStruct(0)), within(1), row(l[0]))...)
			wantError(t, api.ErrRange, join(row(aStruct(0), aList(1, 1, isStruct), aStruct(id)), row(l[0]))...)
		}
	}
}

// 23.2: which of two errors is first.
func TestFirstError(t *testing.T) {
	const none = 32768
	for _, x := range []struct {
		l    []call
		code api.Code
	}{
		{row(aStruct(0), aWhole(none, isText, 1<<40)), api.ErrKind},
		{row(aWhole(none, 0, 1<<40)), api.ErrKind},
		{row(aWhole(none, isI32, 1<<40)), api.ErrRange},
		{row(aWhole(none, isI64, 1<<40)), api.ErrOrder},
		{row(aStruct(0), aList(1, 0, isText), aWhole(none, isList, 0)), api.ErrKind},
		{row(aStruct(0), aList(1, 0, isText), aWhole(none, isI16, 1<<15)), api.ErrRange},
		{row(aStruct(0), aList(1, 0, isText), aWhole(none, isI16, 1<<14)), api.ErrOrder},
		{row(aStruct(0), aList(1, 0, isText), aList(none, 0, 0)), api.ErrRange},
		{row(aStruct(0), aList(1, 0, isText), aList(none, 0, 1)), api.ErrOrder},
		{row(aList(none, -1, 1)), api.ErrRange},
		{row(aList(none, 0, 1)), api.ErrOrder},
		{row(aText(none, "")), api.ErrOrder},
		{append(begun(32), aWhole(none, 0, 0)), api.ErrKind},
		{append(begun(32), aList(none, -1, 0)), api.ErrDeep},
		{append(begun(32), aStruct(none)), api.ErrDeep},
		{append(begun(31), aList(1, 0, isText), aStruct(none)), api.ErrDeep},
		{append(begun(31), aList(1, 1, isText), aList(none, -1, 0)), api.ErrDeep},
		{append(begun(30), aList(1, 0, isText), aStruct(none)), api.ErrOrder},
		{append(begun(30), aList(1, 1, isText), aList(none, -1, 0)), api.ErrRange},
		{append(begun(30), aList(1, 1, isText), aList(none, 1, 1)), api.ErrOrder},
		{append(begun(31), aList(none, 1, 1)), api.ErrRange},
		{append(begun(31), aStruct(none)), api.ErrRange},
	} {
		wantError(t, x.code, x.l...)
		if _, code := bytesOf(x.l); code != x.code {
			t.Errorf("%v: made apart %d, want %d", x.l, code, x.code)
		}
	}
}

// wrongCalls are calls that are wrong within a struct, with their errors.
var wrongCalls = []struct {
	c    call
	code api.Code
}{{aWhole(1, 0, 0), api.ErrKind}, {aWhole(1, isByte, 128), api.ErrRange}, {aList(1, -1, 1), api.ErrRange}, {aText(32768, ""), api.ErrRange}}

// 23.2: the first error stays, whatever is told behind it.
func TestFirstStays(t *testing.T) {
	for _, x := range wrongCalls {
		for _, y := range wrongCalls {
			w := cwrite.New()
			do(w, aStruct(0), x.c, y.c)
			want(t, w, "", x.code)
			do(w, join(row(anEnd()), within(0))...)
			want(t, w, "", x.code)
		}
		wantError(t, x.code, join(within(0, aText(1, "a")), row(aStruct(0), aText(1, "b"), x.c))...)
		wantError(t, x.code, append(begun(31), x.c)...)
	}
}

// 23.3: Done asks, and changes nothing; one may go on behind it, and what it told stays as it was.
func TestDone(t *testing.T) {
	w := cwrite.New()
	want(t, w, "", api.OK)
	do(w, within(0, aText(1, "a"))...)
	first, code := w.Done()
	if first != "\x18\x01a\x00" || code != api.OK {
		t.Fatal(first, code)
	}
	do(w, aStruct(0))
	want(t, w, "", api.ErrCut)
	do(w, aText(2, "b"))
	want(t, w, "", api.ErrCut)
	do(w, aList(3, 1, isByte))
	want(t, w, "", api.ErrCut)
	do(w, aWhole(0, isByte, 9))
	want(t, w, "", api.ErrCut)
	do(w, anEnd())
	want(t, w, "", api.ErrCut)
	do(w, anEnd())
	const second = "\x18\x01a\x00\x28\x01b\x19\x13\x09\x00"
	want(t, w, second, api.OK)
	do(w, within(0)...)
	want(t, w, second+"\x00", api.OK)
	do(w, anEnd())
	want(t, w, "", api.ErrOrder)
	if first != "\x18\x01a\x00" {
		t.Fatal(first)
	}
}

// 23.1: two writers that are told by turns, each of which writes what it was told.
func TestByTurns(t *testing.T) {
	for _, x := range written {
		for _, y := range written {
			one, other := cwrite.New(), cwrite.New()
			for i := range max(len(x.l), len(y.l)) {
				if i < len(x.l) {
					do(one, x.l[i])
				}
				if i < len(y.l) {
					do(other, y.l[i])
				}
			}
			want(t, one, x.s, api.OK)
			want(t, other, y.s, api.OK)
		}
	}
}

// 23.1 to 23.3: all that few calls, of all seven, say together, one behind the other, ahead of and within a struct.
func TestFewCalls(t *testing.T) {
	few := row(aStruct(1), aStruct(40000), aList(2, 1, isStruct), aList(1, 2, isFalse), aList(-1, 0, isList), aList(3, 1, isByte), aList(1, 1, 0), anEnd(), aFlag(16, true), aWhole(1, isByte, -1), aWhole(2, isI16, 1<<15), aWhole(2, isText, 0), aDouble(40, 1), aText(1, "a"), aText(1<<15, "a"))
	var each func(l []call, more int)
	each = func(l []call, more int) {
		wantAtEnd(t, l)
		if more == 0 {
			return
		}
		for _, c := range few {
			each(append(slices.Clone(l), c), more-1)
		}
	}
	each(nil, 4)
	each(row(aStruct(0), aText(1, "")), 4)
}

// 23.1 to 23.3: longer ones of those calls alone that go on, as a chain of them mostly does.
func TestLongerCalls(t *testing.T) {
	few := row(aStruct(1), aList(1, 1, isStruct), aList(1, 1, isList), aFlag(2, false), anEnd())
	var each func(l []call, more int)
	each = func(l []call, more int) {
		wantAtEnd(t, l)
		if more == 0 {
			return
		}
		if _, code := bytesOf(l); code != api.OK && code != api.ErrCut {
			return
		}
		for _, c := range few {
			each(append(slices.Clone(l), c), more-1)
		}
	}
	each(nil, 9)
}

// byChance tells a value of a kind, by calls that are right; room is how many more may be begun.
func byChance(chance *rand.Rand, kind byte, room int) []call {
	id := []int{chance.Intn(20), chance.Intn(20), chance.Intn(65536) - 32768, ids[chance.Intn(len(ids))]}[chance.Intn(4)]
	switch kind {
	case isTrue, isFalse:
		return row(aFlag(id, chance.Intn(2) == 0))
	case isByte, isI16, isI32, isI64:
		bits := wholes[kind-isByte].bits
		return row(aWhole(id, kind, int(chance.Uint64())>>(64-bits)>>chance.Intn(int(bits))))
	case isDouble:
		return row(aDouble(id, chance.Uint64()>>chance.Intn(64)))
	case isList:
		return listOfChance(chance, id, room)
	case isStruct:
		var l []call
		for range chance.Intn(5) {
			l = append(l, byChance(chance, kindOfChance(chance, room-1), room-1)...)
		}
		return within(id, l...)
	}
	s := make([]byte, chance.Intn(3)*chance.Intn(80))
	chance.Read(s)
	return row(aText(id, string(s)))
}

// listOfChance tells a list.
func listOfChance(chance *rand.Rand, id, room int) []call {
	n := []int{0, 1, 2, chance.Intn(5), 15}[chance.Intn(5)]
	kind := kindOfChance(chance, room-1)
	if n == 0 {
		kind = kinds[chance.Intn(len(kinds))]
	}
	var l []call
	for range n {
		l = append(l, byChance(chance, kind, room-1)...)
	}
	return listed(id, n, kind, l...)
}

// kindOfChance tells a kind that a writer writes, one that holds others just where there is room.
func kindOfChance(chance *rand.Rand, room int) byte {
	all := []byte{isTrue, isFalse, isByte, isI16, isI32, isI64, isDouble, isText, isList, isStruct, isList, isStruct}
	if room == 0 {
		all = all[:8]
	}
	return all[chance.Intn(len(all))]
}

// worn tells calls of which one or few were changed, left out, told again, or exchanged.
func worn(chance *rand.Rand, l []call) []call {
	l = slices.Clone(l)
	for range 1 + chance.Intn(2) {
		if len(l) == 0 {
			return l
		}
		i, j := chance.Intn(len(l)), chance.Intn(len(l))
		switch chance.Intn(7) {
		case 0:
			l = slices.Delete(l, i, i+1)
		case 1:
			l = slices.Insert(l, i, l[j])
		case 2:
			l[i], l[j] = l[j], l[i]
		case 3:
			l[i].id = anything[chance.Intn(len(anything))]
		case 4:
			l[i].n += []int{1, -1, 1 << 31, 1 << 15, -1 << 32}[chance.Intn(5)]
		case 5:
			l[i].kind = byte(chance.Intn(14))
		case 6:
			l[i].what = what(chance.Intn(7))
		}
	}
	return l
}

// 23.1 to 23.3: structs by chance, whole and worn.
func TestChance(t *testing.T) {
	chance := rand.New(rand.NewSource(23))
	for i := range 6000 {
		var l []call
		for range chance.Intn(4) {
			l = append(l, byChance(chance, isStruct, 1+i%6)...)
		}
		if len(l) > 3000 {
			continue
		}
		wantAtEnd(t, l)
		if _, code := bytesOf(l); code != api.OK {
			t.Fatal(l, code)
		}
		for range 5 {
			wantAtEnd(t, worn(chance, l))
		}
		if len(l) < 60 {
			wantAsApart(t, l)
			wantAsApart(t, worn(chance, l))
		}
	}
}

// readBack holds what is read of a struct's bytes, or a list's, against the calls within it, and tells those behind its
// end.
func readBack(t *testing.T, l []call, f []cread.Field, isList bool, deep int) []call {
	t.Helper()
	for i := 0; ; i++ {
		c := l[0]
		l = l[1:]
		if c.what == ends {
			if i != len(f) {
				t.Fatalf("%d fields were read, want %d", len(f), i)
			}
			return l
		}
		if i >= len(f) {
			t.Fatalf("%d fields were read, want more", len(f))
		}
		id := c.id
		if isList {
			id = i
		}
		l = readOne(t, c, l, f[i], id, deep)
	}
}

// readOne holds a field, or a list's value, that was read against its call and its number, and tells the calls behind it.
func readOne(t *testing.T, c call, l []call, f cread.Field, id, deep int) []call {
	t.Helper()
	want := cread.Field{ID: id, Kind: kindOf(c), Bits: c.bits, Text: c.s, Raw: f.Raw}
	if c.what == counts {
		want.Num = c.n
	} else if c.is {
		want.Num = 1
	}
	if f != want {
		t.Fatalf("%v, want %v of %v", f, want, c)
	}
	switch c.what {
	case begins:
		inner, size, code := cread.Struct(f.Raw, deep+1)
		if code != api.OK || size != len(f.Raw) {
			t.Fatalf("%q: %d, %d", f.Raw, size, code)
		}
		return readBack(t, l, inner, false, deep+1)
	case lists:
		inner, code := cread.Items(f.Raw, deep+1)
		if code != api.OK || len(inner) != c.n {
			t.Fatalf("%q: %v, %d", f.Raw, inner, code)
		}
		return readBack(t, l, inner, true, deep+1)
	}
	return l
}

// 23.1: what is read of a writer's bytes, by the layer that reads, is what it was told.
func TestReadBack(t *testing.T) {
	chance := rand.New(rand.NewSource(1))
	for i := range 4000 {
		var l []call
		for range 1 + chance.Intn(3) {
			l = append(l, byChance(chance, isStruct, 1+i%6)...)
		}
		w := cwrite.New()
		do(w, l...)
		s, code := w.Done()
		if code != api.OK {
			t.Fatal(l, code)
		}
		for s != "" {
			f, size, code := cread.Struct(s, 0)
			if code != api.OK {
				t.Fatalf("%q: %d", s, code)
			}
			l = readBack(t, l[1:], f, false, 0)
			s = s[size:]
		}
		if len(l) > 0 {
			t.Fatalf("%v is left", l)
		}
	}
}
