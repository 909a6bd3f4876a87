package varint_test

import (
	"bytes"
	"math"
	"slices"
	"strings"
	"testing"

	"truchman/api"
	"truchman/cursor"
	"truchman/varint"
)

// written are numbers with their bytes written out.
var written = []struct {
	u uint64
	s string
}{
	{0, "\x00"},
	{1, "\x01"},
	{10, "\x0a"},
	{127, "\x7f"},
	{128, "\x80\x01"},
	{129, "\x81\x01"},
	{300, "\xac\x02"},
	{1<<14 - 1, "\xff\x7f"},
	{1 << 14, "\x80\x80\x01"},
	{1<<21 - 1, "\xff\xff\x7f"},
	{1 << 21, "\x80\x80\x80\x01"},
	{math.MaxUint32, "\xff\xff\xff\xff\x0f"},
	{1 << 32, "\x80\x80\x80\x80\x10"},
	{0x0102030405060708, "\x88\x8e\x98\xa8\xc0\xe0\x80\x81\x01"},
	{1<<63 - 1, "\xff\xff\xff\xff\xff\xff\xff\xff\x7f"},
	{1 << 63, "\x80\x80\x80\x80\x80\x80\x80\x80\x80\x01"},
	{1<<63 + 1, "\x81\x80\x80\x80\x80\x80\x80\x80\x80\x01"},
	{math.MaxUint64 - 1, "\xfe\xff\xff\xff\xff\xff\xff\xff\xff\x01"},
	{math.MaxUint64, "\xff\xff\xff\xff\xff\xff\xff\xff\xff\x01"},
}

// numbers are those around each power of two, the greatest, and others.
func numbers() []uint64 {
	list := []uint64{300, math.MaxUint64, math.MaxUint64 - 1, 0x0102030405060708, 0xf1e2d3c4b5a69788, 0xaaaaaaaaaaaaaaaa, 0x5555555555555555}
	for i := range 64 {
		p := uint64(1) << i
		list = append(list, p-1, p, p+1)
	}
	slices.Sort(list)
	return slices.Compact(list)
}

// bytesOf tells a number's bytes by its bits, written from the lowest one on: bits that are 0 above the highest 1 are
// left out, and what is left is cut by sevens.
func bytesOf(u uint64) string {
	var digits []byte
	for range 64 {
		digits = append(digits, byte(u%2))
		u /= 2
	}
	for len(digits) > 1 && digits[len(digits)-1] == 0 {
		digits = digits[:len(digits)-1]
	}
	var list []byte
	for seven := range slices.Chunk(digits, 7) {
		b := byte(128)
		for i, digit := range seven {
			b += digit << i
		}
		list = append(list, b)
	}
	list[len(list)-1] -= 128
	return string(list)
}

// longer tells a number's bytes with bits that are 0 alone at the end, count bytes in all.
func longer(u uint64, count int) string {
	s := bytesOf(u)
	last := len(s) - 1
	return s[:last] + string([]byte{s[last] + 128}) + strings.Repeat("\x80", count-len(s)-1) + "\x00"
}

// The bytes that the tests hold the program against are themselves those that are written out.
func TestBytesOf(t *testing.T) {
	for _, one := range written {
		if s := bytesOf(one.u); s != one.s {
			t.Errorf("%d: %q, want %q", one.u, s, one.s)
		}
	}
	if s := longer(300, 4); s != "\xac\x82\x80\x00" {
		t.Errorf("%q", s)
	}
	if s := longer(0, 2); s != "\x80\x00" {
		t.Errorf("%q", s)
	}
}

// 3.1: bytes written out, of Put, Size and Short.
func TestWritten(t *testing.T) {
	for _, one := range written {
		if b := varint.Put(nil, one.u); string(b) != one.s {
			t.Errorf("Put(nil, %d): %q, want %q", one.u, b, one.s)
		}
		if n := varint.Size(one.u); n != len(one.s) {
			t.Errorf("Size(%d): %d, want %d", one.u, n, len(one.s))
		}
		if !varint.Short(one.s) {
			t.Errorf("Short(%q): false", one.s)
		}
	}
}

// 3.1: behind no bytes, and behind some, stand the number's bytes, of any number.
func TestPutBehind(t *testing.T) {
	for _, b := range [][]byte{nil, {}, {0}, {127}, {128}, {255}, []byte("abc"), bytes.Repeat([]byte{200}, 100)} {
		for _, u := range numbers() {
			want := string(b) + bytesOf(u)
			if got := varint.Put(b, u); string(got) != want {
				t.Errorf("Put(%v, %d): %q, want %q", b, u, got, want)
			}
		}
	}
}

// 3.1: numbers are put one behind the other.
func TestPutOnAndOn(t *testing.T) {
	got := varint.Put(varint.Put(varint.Put(varint.Put(nil, 0), 300), math.MaxUint64), 1)
	want := "\x00\xac\x02\xff\xff\xff\xff\xff\xff\xff\xff\xff\x01\x01"
	if string(got) != want {
		t.Errorf("%q, want %q", got, want)
	}
}

// 3.1 and R3: a new list: neither b, nor what lies behind its length, is written to, and no answer shares with b, or
// with another answer.
func TestPutApart(t *testing.T) {
	for _, u := range []uint64{0, 127, 300, math.MaxUint64} {
		for _, have := range []int{0, 3, 20} {
			const all = "0123456789abcdefghij"
			whole := []byte(all)
			b := whole[:have]
			one, other := varint.Put(b, u), varint.Put(b, u/2)
			if string(whole) != all {
				t.Errorf("Put of %d writes to what it was handed: %q", u, whole)
			}
			if want := all[:have] + bytesOf(u); string(one) != want {
				t.Errorf("the first answer changed with the second: %q, want %q", one, want)
			}
			for i := range one {
				one[i] = 'x'
			}
			for i := range whole {
				whole[i] = 'y'
			}
			if want := all[:have] + bytesOf(u/2); string(other) != want {
				t.Errorf("the second answer changed with the first, or with b: %q, want %q", other, want)
			}
		}
	}
}

// 3.1 and R3: what lay behind b's length is not handed out behind the answer's.
func TestPutHidesRest(t *testing.T) {
	whole := bytes.Repeat([]byte{'s'}, 64)
	for _, u := range []uint64{0, 300, math.MaxUint64} {
		got := varint.Put(whole[:2], u)
		if rest := got[len(got):cap(got)]; bytes.Contains(rest, []byte{'s'}) {
			t.Errorf("Put of %d hands out %q", u, rest)
		}
	}
}

// 3.1: how many bytes a number has grows with each seventh bit, and just there.
func TestSize(t *testing.T) {
	for i := 1; i <= 9; i++ {
		above := uint64(1) << (7 * i)
		for _, one := range []struct {
			u uint64
			n int
		}{{above - 2, i}, {above - 1, i}, {above, i + 1}, {above + 1, i + 1}} {
			if n := varint.Size(one.u); n != one.n {
				t.Errorf("Size(%d): %d, want %d", one.u, n, one.n)
			}
		}
	}
	for _, u := range numbers() {
		if n := varint.Size(u); n != len(bytesOf(u)) {
			t.Errorf("Size(%d): %d, want %d", u, n, len(bytesOf(u)))
		}
	}
	if n := varint.Size(0); n != 1 {
		t.Errorf("Size(0): %d", n)
	}
}

// 3.1: just the bytes of a number are short: none of them may lack, none stand behind them, and no bits that are 0
// alone at their end.
func TestShort(t *testing.T) {
	for _, u := range numbers() {
		s := bytesOf(u)
		if !varint.Short(s) {
			t.Errorf("Short(%q), of %d: false", s, u)
		}
		for few := range s {
			if varint.Short(s[:few]) {
				t.Errorf("Short(%q), of fewer bytes than %d has: true", s[:few], u)
			}
		}
		for _, behind := range []string{"\x00", "\x01", "\x80", "\xff", "a", s} {
			if varint.Short(s + behind) {
				t.Errorf("Short(%q), of more bytes than %d has: true", s+behind, u)
			}
		}
		for count := len(s) + 1; count <= 12; count++ {
			if varint.Short(longer(u, count)) {
				t.Errorf("Short(%q), with bits of 0 at the end of %d: true", longer(u, count), u)
			}
		}
	}
}

// 3.1: of each text of no, one and two bytes.
func TestShortOfFew(t *testing.T) {
	if varint.Short("") {
		t.Error("no bytes are no number's")
	}
	for a := range 256 {
		if s := string([]byte{byte(a)}); varint.Short(s) != (a < 128) {
			t.Errorf("Short(%q): %v", s, a >= 128)
		}
		for b := range 256 {
			want := a >= 128 && b >= 1 && b < 128
			if s := string([]byte{byte(a), byte(b)}); varint.Short(s) != want {
				t.Errorf("Short(%q): %v", s, !want)
			}
		}
	}
}

// 3.1: what is too great for a number is not short, and so is what is no number for long.
func TestShortOfTooMany(t *testing.T) {
	for _, s := range tooGreat() {
		if varint.Short(s) {
			t.Errorf("Short(%q): true", s)
		}
	}
	for _, b := range []string{"\x00", "\x01", "\x80", "\xff"} {
		if varint.Short(strings.Repeat(b, 100000)) {
			t.Errorf("Short of many times %q: true", b)
		}
	}
}

// wantRead reads a number of s, behind the bytes ahead and before those behind.
func wantRead(t *testing.T, ahead, s, behind string, want uint64) {
	t.Helper()
	c := cursor.New(ahead + s + behind)
	c.Take(len(ahead))
	u := varint.Read(c)
	if u != want || c.Err() != api.OK || c.At() != len(ahead)+len(s) || c.Left() != len(behind) {
		t.Errorf("%q between %q and %q: %d, at %d, left %d, error %d; want %d", s, ahead, behind, u, c.At(), c.Left(), c.Err(), want)
	}
}

// wantFail reads of s, behind the bytes ahead, what is no number.
func wantFail(t *testing.T, ahead, s string, want api.Code) {
	t.Helper()
	c := cursor.New(ahead + s)
	c.Take(len(ahead))
	if u := varint.Read(c); u != 0 || c.Err() != want {
		t.Errorf("%q behind %q: %d, error %d; want 0, error %d", s, ahead, u, c.Err(), want)
	}
}

// 3.2: any number is read of its bytes, which the cursor goes past, and not past what stands behind.
func TestRead(t *testing.T) {
	for _, ahead := range []string{"", "\x00", "\x80", "abc"} {
		for _, behind := range []string{"", "\x00", "\x01", "\x80", "\xff", "abcdefghijkl"} {
			for _, one := range written {
				wantRead(t, ahead, one.s, behind, one.u)
			}
			for _, u := range numbers() {
				wantRead(t, ahead, bytesOf(u), behind, u)
			}
		}
	}
}

// 3.2: each text of one byte, and of two where the first one is 128 or more.
func TestReadOfFew(t *testing.T) {
	for a := range 128 {
		wantRead(t, "", string([]byte{byte(a)}), "", uint64(a))
		for b := range 128 {
			wantRead(t, "", string([]byte{byte(128 + a), byte(b)}), "", uint64(a+128*b))
		}
	}
}

// 3.2: bits that are 0 alone may stand at the end, up to the tenth byte.
func TestReadWithZeros(t *testing.T) {
	wantRead(t, "", "\x80\x00", "", 0)
	wantRead(t, "", "\x80\x80\x00", "\x00", 0)
	wantRead(t, "", "\xac\x82\x00", "", 300)
	wantRead(t, "", "\xff\xff\xff\xff\xff\xff\xff\xff\xff\x00", "", 1<<63-1)
	wantRead(t, "", "\x80\x80\x80\x80\x80\x80\x80\x80\x80\x00", "", 0)
	for _, u := range numbers() {
		for count := len(bytesOf(u)) + 1; count <= 10; count++ {
			wantRead(t, "", longer(u, count), "", u)
			wantRead(t, "x", longer(u, count), "\xff", u)
		}
	}
}

// nines are texts of nine bytes of 128 or more.
var nines = []string{
	"\x80\x80\x80\x80\x80\x80\x80\x80\x80",
	"\xff\xff\xff\xff\xff\xff\xff\xff\xff",
	"\x80\xff\x81\xfe\xaa\xd5\x80\xff\x80",
	"\xff\x80\x80\x80\x80\x80\x80\x80\x80",
	"\x80\x80\x80\x80\x80\x80\x80\x80\x81",
}

// tooGreat are texts of nine bytes of 128 or more, with each tenth one above 1.
func tooGreat() []string {
	var list []string
	for _, nine := range nines {
		for tenth := 2; tenth < 256; tenth++ {
			list = append(list, nine+string([]byte{byte(tenth)}))
		}
	}
	return list
}

// 3.2: a tenth byte may be 0 or 1; it is the highest bit.
func TestReadTenth(t *testing.T) {
	for _, nine := range nines {
		var low uint64
		for i := range 9 {
			low += uint64(nine[i]-128) << (7 * i)
		}
		for _, behind := range []string{"", "\x00", "\xff"} {
			wantRead(t, "", nine+"\x00", behind, low)
			wantRead(t, "", nine+"\x01", behind, low+1<<63)
		}
	}
}

// 3.2: a tenth byte above 1 is too great, whether bytes stand behind it or not: ErrRange, also where they end ahead of
// the number's end, and where what is beyond 64 bits is 0 alone.
func TestReadTooGreat(t *testing.T) {
	for _, s := range tooGreat() {
		for _, behind := range []string{"", "\x00", "\x01", "\x80", "\xff\xff\xff\x00"} {
			wantFail(t, "", s+behind, api.ErrRange)
			wantFail(t, "\xff\x00", s+behind, api.ErrRange)
		}
	}
	for _, u := range []uint64{0, 1, 300, math.MaxUint64} {
		wantFail(t, "", longer(u, 11), api.ErrRange)
		wantFail(t, "", longer(u, 12), api.ErrRange)
	}
	wantFail(t, "", strings.Repeat("\x80", 100000), api.ErrRange)
	wantFail(t, "", strings.Repeat("\xff", 100000), api.ErrRange)
}

// 3.2: where the bytes end ahead of the number's end, 0 and ErrCut.
func TestReadOfTooFew(t *testing.T) {
	for _, ahead := range []string{"", "\x00", "abc"} {
		wantFail(t, ahead, "", api.ErrCut)
		for _, nine := range nines {
			for few := range 10 {
				wantFail(t, ahead, nine[:few], api.ErrCut)
			}
		}
		for _, u := range numbers() {
			s := bytesOf(u)
			wantFail(t, ahead, s[:len(s)-1], api.ErrCut)
		}
	}
}

// 3.2: bytes beyond a cursor's own lack, even if the text has them.
func TestReadWithinBounds(t *testing.T) {
	c := cursor.New("a\xac\x02\xac\x02\xff\xff\xff\xff\xff\xff\xff\xff\xff\x02z")
	c.Byte()
	enough, few, nine := c.Sub(2), c.Sub(1), c.Sub(10)
	if u := varint.Read(enough); u != 300 || enough.End() != api.OK || enough.At() != 3 {
		t.Errorf("enough bytes: %d, end %d, at %d", u, enough.End(), enough.At())
	}
	if u := varint.Read(few); u != 0 || few.Err() != api.ErrCut {
		t.Errorf("one byte too few: %d, error %d", u, few.Err())
	}
	nine.Byte()
	if u := varint.Read(nine); u != 0 || nine.Err() != api.ErrCut {
		t.Errorf("nine bytes: %d, error %d", u, nine.Err())
	}
	if c.Err() != api.OK || c.At() != 14 {
		t.Errorf("the cursor around these: error %d, at %d", c.Err(), c.At())
	}
}

// 3.2: a cursor that has an error keeps it, whatever stands there, and no number is read.
func TestReadOfFailed(t *testing.T) {
	for _, code := range []api.Code{api.ErrCut, api.ErrTail, api.ErrForm, api.ErrRange, api.ErrNone, api.ErrWeight, -1} {
		for _, s := range []string{"", "\x00", "\x01", "\xac\x02", "\xff", "\xff\xff\xff\xff\xff\xff\xff\xff\xff\x02"} {
			c := cursor.New(s)
			c.Fail(code)
			if u := varint.Read(c); u != 0 || c.Err() != code || c.At() != 0 || c.Left() != len(s) {
				t.Errorf("%q with error %d: %d, error %d, at %d, left %d", s, code, u, c.Err(), c.At(), c.Left())
			}
		}
	}
}

// 3.2: numbers are read one behind the other; behind one that failed none is read any more.
func TestReadOnAndOn(t *testing.T) {
	c := cursor.New("\x00\xac\x02\x80\x00\xff\xff\xff\xff\xff\xff\xff\xff\xff\x01\x01")
	for _, want := range []uint64{0, 300, 0, math.MaxUint64, 1} {
		if u := varint.Read(c); u != want || c.Err() != api.OK {
			t.Errorf("%d, error %d, want %d", u, c.Err(), want)
		}
	}
	if code := c.End(); code != api.OK {
		t.Error("all of it:", code)
	}
	for range 2 {
		if u := varint.Read(c); u != 0 || c.Err() != api.ErrCut {
			t.Error("behind all of it:", u, c.Err())
		}
	}
	d := cursor.New(nines[0] + "\x02\x05\x06")
	for range 3 {
		if u := varint.Read(d); u != 0 || d.Err() != api.ErrRange {
			t.Error("behind what is too great:", u, d.Err())
		}
	}
}

// 3.2 and R6: of a cursor that is nil 0, and no panic.
func TestReadOfNil(t *testing.T) {
	if u := varint.Read(nil); u != 0 {
		t.Error(u)
	}
}
