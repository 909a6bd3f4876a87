package pread_test

import (
	"bytes"
	"encoding/binary"
	"math"
	"math/big"
	"math/rand"
	"slices"
	"strings"
	"testing"

	"truchman/api"
	"truchman/cursor"
	"truchman/pread"
)

// most is the greatest number of a field.
const most = 536870911

// written are fields with their bytes written out.
var written = []struct {
	f pread.Field
	s string
}{
	{pread.Field{Number: 1, Wire: 0, Num: 150}, "\x08\x96\x01"},
	{pread.Field{Number: 1, Wire: 0, Num: 0}, "\x08\x00"},
	{pread.Field{Number: 1, Wire: 0, Num: 1}, "\x08\x01"},
	{pread.Field{Number: 1, Wire: 0, Num: 127}, "\x08\x7f"},
	{pread.Field{Number: 1, Wire: 0, Num: 128}, "\x08\x80\x01"},
	{pread.Field{Number: 2, Wire: 0, Num: 16383}, "\x10\xff\x7f"},
	{pread.Field{Number: 15, Wire: 0, Num: 16384}, "\x78\x80\x80\x01"},
	{pread.Field{Number: 16, Wire: 0, Num: 1 << 63}, "\x80\x01\x80\x80\x80\x80\x80\x80\x80\x80\x80\x01"},
	{pread.Field{Number: 1, Wire: 0, Num: math.MaxInt64}, "\x08\xff\xff\xff\xff\xff\xff\xff\xff\x7f"},
	{pread.Field{Number: 1, Wire: 0, Num: math.MaxUint64}, "\x08\xff\xff\xff\xff\xff\xff\xff\xff\xff\x01"},
	{pread.Field{Number: most, Wire: 0, Num: 7}, "\xf8\xff\xff\xff\x0f\x07"},
	{pread.Field{Number: 1, Wire: 1, Num: 0}, "\x09\x00\x00\x00\x00\x00\x00\x00\x00"},
	{pread.Field{Number: 1, Wire: 1, Num: 1}, "\x09\x01\x00\x00\x00\x00\x00\x00\x00"},
	{pread.Field{Number: 3, Wire: 1, Num: 0x0807060504030201}, "\x19\x01\x02\x03\x04\x05\x06\x07\x08"},
	{pread.Field{Number: 1, Wire: 1, Num: 1 << 63}, "\x09\x00\x00\x00\x00\x00\x00\x00\x80"},
	{pread.Field{Number: 2047, Wire: 1, Num: math.MaxUint64}, "\xf9\x7f\xff\xff\xff\xff\xff\xff\xff\xff"},
	{pread.Field{Number: most, Wire: 1, Num: 258}, "\xf9\xff\xff\xff\x0f\x02\x01\x00\x00\x00\x00\x00\x00"},
	{pread.Field{Number: 1, Wire: 2, Text: ""}, "\x0a\x00"},
	{pread.Field{Number: 1, Wire: 2, Text: "\x00"}, "\x0a\x01\x00"},
	{pread.Field{Number: 4, Wire: 2, Text: "abc"}, "\x22\x03abc"},
	{pread.Field{Number: 1, Wire: 2, Text: "\xff\x80\xc0"}, "\x0a\x03\xff\x80\xc0"},
	{pread.Field{Number: 1, Wire: 2, Text: "\x08\x96\x01"}, "\x0a\x03\x08\x96\x01"},
	{pread.Field{Number: 2048, Wire: 2, Text: "\xe2\x82\xac"}, "\x82\x80\x01\x03\xe2\x82\xac"},
	{pread.Field{Number: 1, Wire: 2, Text: strings.Repeat("x", 127)}, "\x0a\x7f" + strings.Repeat("x", 127)},
	{pread.Field{Number: 1, Wire: 2, Text: strings.Repeat("x", 128)}, "\x0a\x80\x01" + strings.Repeat("x", 128)},
	{pread.Field{Number: most, Wire: 2, Text: strings.Repeat("\xff", 16384)}, "\xfa\xff\xff\xff\x0f\x80\x80\x01" + strings.Repeat("\xff", 16384)},
	{pread.Field{Number: 1, Wire: 5, Num: 0}, "\x0d\x00\x00\x00\x00"},
	{pread.Field{Number: 1, Wire: 5, Num: 1}, "\x0d\x01\x00\x00\x00"},
	{pread.Field{Number: 7, Wire: 5, Num: 0x04030201}, "\x3d\x01\x02\x03\x04"},
	{pread.Field{Number: 1, Wire: 5, Num: 1 << 31}, "\x0d\x00\x00\x00\x80"},
	{pread.Field{Number: 32, Wire: 5, Num: math.MaxUint32}, "\x85\x02\xff\xff\xff\xff"},
	{pread.Field{Number: most, Wire: 5, Num: 258}, "\xfd\xff\xff\xff\x0f\x02\x01\x00\x00"},
}

// numbers are fields' numbers at which a tag needs a byte more, and those ahead of them.
var numbers = []int{1, 2, 3, 15, 16, 2047, 2048, 262143, 262144, 33554431, 33554432, most - 1, most}

// nums are those around each power of two, and others.
func nums() []uint64 {
	list := []uint64{0, 150, 0x0807060504030201, 0xaaaaaaaaaaaaaaaa, 0x5555555555555555, math.MaxUint64, math.MaxUint64 - 1}
	for i := range 64 {
		p := uint64(1) << i
		list = append(list, p-1, p, p+1)
	}
	slices.Sort(list)
	return slices.Compact(list)
}

// texts are of none, one and many bytes, at which a size needs a byte more among them, of characters and of others.
func texts() []string {
	list := []string{"", "\x00", "\xff", "\x80", "a", "ab", "\x08\x01", "\xe2\x82\xac", "\xe2\x82", "a\x00b", "\x0a\x0a\x0a\x0a"}
	for _, count := range []int{126, 127, 128, 129, 255, 256, 16383, 16384} {
		list = append(list, strings.Repeat("\xfe", count), strings.Repeat("xyz\x00", count/4)+strings.Repeat("\n", count%4))
	}
	return list
}

// all are fields of each number, of each wire type, with each of the numbers, or the texts, that it has room for.
func all() []pread.Field {
	var list []pread.Field
	for _, number := range numbers {
		for _, u := range nums() {
			list = append(list, pread.Field{Number: number, Wire: 0, Num: u}, pread.Field{Number: number, Wire: 1, Num: u})
			if u <= math.MaxUint32 {
				list = append(list, pread.Field{Number: number, Wire: 5, Num: u})
			}
		}
		for _, s := range texts() {
			list = append(list, pread.Field{Number: number, Wire: 2, Text: s})
		}
	}
	return list
}

// some are fields of each wire type, and of several numbers.
var some = []pread.Field{
	{Number: 1, Wire: 0, Num: 150}, {Number: 1, Wire: 1, Num: 150}, {Number: 1, Wire: 2, Text: "150"}, {Number: 1, Wire: 5, Num: 150},
	{Number: 1, Wire: 2}, {Number: 1, Wire: 0}, {Number: 2, Wire: 5}, {Number: 2, Wire: 1}, {Number: 16, Wire: 0, Num: math.MaxUint64},
	{Number: most, Wire: 2, Text: strings.Repeat("\x80", 200)}, {Number: most, Wire: 5, Num: math.MaxUint32},
}

// nones are fields of whose number and wire type there is no tag, whatever else they have.
func nones() []pread.Field {
	var list []pread.Field
	add := func(number, wire int) {
		list = append(list,
			pread.Field{Number: number, Wire: wire},
			pread.Field{Number: number, Wire: wire, Num: 150, Text: "abc"},
			pread.Field{Number: number, Wire: wire, Num: math.MaxUint64, Text: strings.Repeat("x", 200)})
	}
	for _, number := range []int{0, -1, -2, -16, -most, most + 1, most + 2, 1<<32 + 1, 1<<61 + 1, 1<<62 + 16, math.MaxInt64, math.MinInt64, math.MinInt64 + 1} {
		for _, wire := range []int{0, 1, 2, 5, 3, -1} {
			add(number, wire)
		}
	}
	for _, wire := range []int{3, 4, 6, 7, 8, 9, 10, 13, -1, -3, -6, -7, -8, 256, 258, 1 << 32, 1<<32 + 2, math.MaxInt64, math.MinInt64, math.MinInt64 + 5} {
		for _, number := range []int{1, 16, most} {
			add(number, wire)
		}
	}
	return list
}

// short tells a number's bytes by the library.
func short(u uint64) string {
	return string(binary.AppendUvarint(nil, u))
}

// longer tells the bytes of a number with bits that are 0 alone at their end, count bytes in all.
func longer(s string, count int) string {
	if count == len(s) {
		return s
	}
	last := len(s) - 1
	return s[:last] + string([]byte{s[last] + 128}) + strings.Repeat("\x80", count-len(s)-1) + "\x00"
}

// tagOf tells the bytes of a tag.
func tagOf(number, wire int) string {
	return short(uint64(number)*8 + uint64(wire))
}

// restOf tells the bytes that stand behind a field's tag, by the library's bytes.
func restOf(f pread.Field) string {
	switch f.Wire {
	case 0:
		return short(f.Num)
	case 1:
		return string(binary.LittleEndian.AppendUint64(nil, f.Num))
	case 5:
		return string(binary.LittleEndian.AppendUint32(nil, uint32(f.Num%(1<<32))))
	}
	return short(uint64(len(f.Text))) + f.Text
}

// bytesOf tells a field's bytes.
func bytesOf(f pread.Field) string {
	return tagOf(f.Number, f.Wire) + restOf(f)
}

// fieldOf tells the field that begins a text, how many bytes it has, and what is wrong with it; it is made apart from
// the program, of numbers without a bound that are cut off the text.
func fieldOf(s string) (pread.Field, int, api.Code) {
	u, at, code := numberOf(s)
	if code != api.OK {
		return pread.Field{}, 0, code
	}
	number, wire := new(big.Int).DivMod(u, big.NewInt(8), new(big.Int))
	f := pread.Field{Number: int(number.Uint64()), Wire: int(wire.Uint64())}
	if number.Sign() == 0 || number.Cmp(big.NewInt(most)) > 0 {
		return pread.Field{}, 0, api.ErrWire
	}
	count := 0
	switch f.Wire {
	default:
		return pread.Field{}, 0, api.ErrWire
	case 1:
		count = 8
	case 5:
		count = 4
	case 0, 2:
		v, n, code := numberOf(s[at:])
		if code != api.OK {
			return pread.Field{}, 0, code
		}
		at += n
		if f.Wire == 0 {
			f.Num = v.Uint64()
			return f, at, api.OK
		}
		if v.Cmp(big.NewInt(int64(len(s)-at))) > 0 {
			return pread.Field{}, 0, api.ErrCut
		}
		count = int(v.Int64())
	}
	if count > len(s)-at {
		return pread.Field{}, 0, api.ErrCut
	}
	part := []byte(s[at : at+count])
	if f.Wire == 2 {
		f.Text = string(part)
	} else {
		slices.Reverse(part)
		f.Num = new(big.Int).SetBytes(part).Uint64()
	}
	return f, at + count, api.OK
}

// numberOf tells the number that begins a text by the digits to the base 2 of its bytes, how many bytes it has, and what
// is wrong with it.
func numberOf(s string) (*big.Int, int, api.Code) {
	high := 0
	for high < len(s) && s[high] >= 128 {
		high++
	}
	if high >= 10 || high == 9 && len(s) > 9 && s[9] > 1 {
		return nil, 0, api.ErrRange
	}
	if high == len(s) {
		return nil, 0, api.ErrCut
	}
	u := new(big.Int)
	for at := high; at >= 0; at-- {
		u.Mul(u, big.NewInt(128))
		u.Add(u, big.NewInt(int64(s[at]%128)))
	}
	return u, high + 1, api.OK
}

// fieldsOf tells all fields of a text, or what is wrong with the first one that is none.
func fieldsOf(s string) ([]pread.Field, api.Code) {
	var list []pread.Field
	for len(s) > 0 {
		f, count, code := fieldOf(s)
		if code != api.OK {
			return nil, code
		}
		list = append(list, f)
		s = s[count:]
	}
	return list, api.OK
}

// What the tests hold the program against is itself what is written out.
func TestMadeApart(t *testing.T) {
	for _, one := range written {
		if s := bytesOf(one.f); s != one.s {
			t.Errorf("%v: %q, want %q", one.f, s, one.s)
		}
		if f, count, code := fieldOf(one.s + "\x80"); f != one.f || count != len(one.s) || code != api.OK {
			t.Errorf("%q: %v, %d bytes, code %d", one.s, f, count, code)
		}
	}
	for s, want := range map[string]api.Code{
		"": api.ErrCut, "\x08": api.ErrCut, "\x80": api.ErrCut, "\x0b": api.ErrWire, "\x00": api.ErrWire, "\x0a\x01": api.ErrCut, "\x0d\x00\x00\x00": api.ErrCut,
		"\x08\xff\xff\xff\xff\xff\xff\xff\xff\xff\x02": api.ErrRange, "\x0a\xff\xff\xff\xff\xff\xff\xff\xff\xff\x01": api.ErrCut, "\x80\x80\x80\x80\x10\x00": api.ErrWire,
	} {
		if f, count, code := fieldOf(s); f != (pread.Field{}) || count != 0 || code != want {
			t.Errorf("%q: %v, %d bytes, code %d, want %d", s, f, count, code, want)
		}
	}
	if s := longer("\x82\x01", 4); s != "\x82\x81\x80\x00" {
		t.Errorf("%q", s)
	}
}

// wantNext reads a field of s, behind the bytes ahead and before those behind.
func wantNext(t *testing.T, ahead, s, behind string, want pread.Field) {
	t.Helper()
	c := cursor.New(ahead + s + behind)
	c.Take(len(ahead))
	got := pread.Next(c)
	if got != want || c.Err() != api.OK || c.At() != len(ahead)+len(s) || c.Left() != len(behind) {
		t.Errorf("%q between %q and %q: %v, at %d, left %d, error %d; want %v", s, ahead, behind, got, c.At(), c.Left(), c.Err(), want)
	}
}

// wantFail reads of s, behind the bytes ahead, what is no field, by Next and, of s alone, by All, where it stands by
// itself and behind right fields; only All of no bytes is none of these, which is told elsewhere.
func wantFail(t *testing.T, ahead, s string, want api.Code) {
	t.Helper()
	c := cursor.New(ahead + s)
	c.Take(len(ahead))
	got := pread.Next(c)
	if got.Number != 0 || got.Wire != 0 || got.Num != 0 || got.Text != "" || c.Err() != want || c.End() != want {
		t.Errorf("%q behind %q: %v, error %d; want none, error %d", s, ahead, got, c.Err(), want)
	}
	if s == "" {
		return
	}
	for _, right := range []string{"", "\x08\x96\x01", "\x0a\x03abc\x09\x01\x02\x03\x04\x05\x06\x07\x08\x0d\x01\x02\x03\x04"} {
		if l, code := pread.All(right + s); len(l) != 0 || code != want {
			t.Errorf("All of %q behind %q: %v, code %d; want none, code %d", s, right, l, code, want)
		}
	}
}

// 17.1 and 17.2: fields of bytes that are written out.
func TestNextWritten(t *testing.T) {
	for _, one := range written {
		wantNext(t, "", one.s, "", one.f)
		wantNext(t, "\x0b\x80", one.s, "\x96\x01", one.f)
	}
}

// 17.1 and 17.2: any field is read of its bytes, which the cursor goes past, and not past what stands behind.
func TestNext(t *testing.T) {
	for _, f := range all() {
		for _, ahead := range []string{"", "\x80"} {
			for _, behind := range []string{"", "\x00", "\xff\xff\xff\xff\xff\xff\xff\xff\xff\xff\xff"} {
				wantNext(t, ahead, bytesOf(f), behind, f)
			}
		}
	}
}

// 17.1 and 3.2: tags, numbers and sizes in more bytes than they need, up to ten, are read as in as few.
func TestNextWithZeros(t *testing.T) {
	wantNext(t, "", "\x88\x00\x96\x81\x00", "", pread.Field{Number: 1, Wire: 0, Num: 150})
	wantNext(t, "", "\x08\x80\x80\x80\x80\x80\x80\x80\x80\x80\x00", "\x00", pread.Field{Number: 1, Wire: 0})
	wantNext(t, "", "\x0a\x83\x00abc", "d", pread.Field{Number: 1, Wire: 2, Text: "abc"})
	wantNext(t, "", "\x0a\x80\x00", "d", pread.Field{Number: 1, Wire: 2})
	wantNext(t, "", "\x8d\x80\x00\x01\x02\x03\x04", "\x05", pread.Field{Number: 1, Wire: 5, Num: 0x04030201})
	for _, f := range append(some, pread.Field{Number: 3, Wire: 2, Text: strings.Repeat("a", 128)}) {
		tag := tagOf(f.Number, f.Wire)
		for many := len(tag); many <= 10; many++ {
			wantNext(t, "x", longer(tag, many)+restOf(f), "y", f)
			if f.Wire == 1 || f.Wire == 5 {
				continue
			}
			number := short(f.Num + uint64(len(f.Text))) // one of them is 0
			for more := len(number); more <= 10; more++ {
				wantNext(t, "x", longer(tag, many)+longer(number, more)+f.Text, "y", f)
			}
			wantFail(t, "x", longer(tag, many)+longer(number, 11)+f.Text, api.ErrRange)
		}
		wantFail(t, "x", longer(tag, 11)+restOf(f), api.ErrRange)
	}
}

// 17.2: fields are read one behind the other, and behind the last one nothing is left.
func TestNextOnAndOn(t *testing.T) {
	var s string
	for _, one := range written {
		s += one.s
	}
	c := cursor.New(s)
	for _, one := range written {
		if c.End() != api.ErrTail {
			t.Error("the end ahead of", one.f, c.End())
		}
		if got := pread.Next(c); got != one.f {
			t.Errorf("%v, want %v", got, one.f)
		}
	}
	if c.End() != api.OK {
		t.Error("all of it:", c.End())
	}
	if got := pread.Next(c); got != (pread.Field{}) || c.Err() != api.ErrCut {
		t.Error("behind all of it:", got, c.Err())
	}
}

// 17.2: in a part of a cursor a field is read as in all of it; bytes beyond the part lack, even if the text has them,
// and what stands ahead of the part counts for nothing.
func TestNextWithinBounds(t *testing.T) {
	for _, f := range some {
		s := bytesOf(f)
		c := cursor.New("\x0a\x7f" + s + s + s + "\x08\x00")
		c.Take(2)
		just, more, few := c.Sub(len(s)), c.Sub(len(s)), c.Sub(len(s)-1)
		if got := pread.Next(just); got != f || just.End() != api.OK || just.At() != 2+len(s) {
			t.Errorf("%v in a part: %v, end %d, at %d", f, got, just.End(), just.At())
		}
		if got := pread.Next(more); got != f || more.Left() != 0 || more.At() != 2+2*len(s) {
			t.Errorf("%v in a second part: %v, left %d, at %d", f, got, more.Left(), more.At())
		}
		if got := pread.Next(few); got != (pread.Field{}) || few.Err() != api.ErrCut {
			t.Errorf("%v, a byte too few: %v, error %d", f, got, few.Err())
		}
		if c.Err() != api.OK || c.At() != 1+3*len(s) || c.Left() != 3 {
			t.Errorf("the cursor around these: error %d, at %d, left %d", c.Err(), c.At(), c.Left())
		}
	}
}

// 17.2: bytes that lack, by one and by many: of a tag, a number, a size, of eight or four bytes, and of a Text.
func TestNextOfTooFew(t *testing.T) {
	for _, f := range append(all(), some...) {
		s := bytesOf(f)
		few := []int{0, 1, len(s) / 2, len(s) - 2, len(s) - 1}
		if len(s) < 30 {
			for count := range s {
				few = append(few, count)
			}
		}
		for _, count := range few {
			wantFail(t, "", s[:count], api.ErrCut)
			wantFail(t, "\x0a", s[:count], api.ErrCut)
		}
	}
	for _, s := range []string{
		"", "\x80", "\x8a", "\xff\xff\xff\xff\xff\xff\xff\xff\xff", "\x08", "\x08\x80", "\x08\xff\xff\xff\xff\xff\xff\xff\xff\xff",
		"\x09", "\x09\x00", "\x09\x01\x02\x03\x04\x05\x06\x07", "\x0d", "\x0d\x00", "\x0d\x01\x02\x03",
		"\x0a", "\x0a\x80", "\x0a\x01", "\x0a\x02a", "\x0a\x03ab", "\x0a\x7fab", "\x0a\x80\x01" + strings.Repeat("x", 127),
	} {
		wantFail(t, "", s, api.ErrCut)
		wantFail(t, "\x0a\x01", s, api.ErrCut)
	}
}

// 17.2: a size that is greater than what is left, up to the greatest number, among them such that are below 0, or just
// right, in fewer bits or with a sign.
func TestNextOfGreatSize(t *testing.T) {
	sizes := []uint64{math.MaxUint64, math.MaxUint64 - 1, math.MaxUint64 - 2, 1<<63 + 3, 1 << 63, math.MaxInt64, 1<<32 + 3, 1 << 32, math.MaxUint32, 1<<31 + 3, 1 << 31, math.MaxInt32, 1<<16 + 3, 256 + 3, 128 + 3, 4, 5, 100}
	for i := 2; i < 64; i++ {
		sizes = append(sizes, uint64(1)<<i, uint64(1)<<i+1, uint64(1)<<i+2, uint64(1)<<i+3)
	}
	for _, size := range sizes {
		for _, text := range []string{"", "a", "abc"} {
			wantFail(t, "", "\x0a"+short(size)+text, api.ErrCut)
			wantFail(t, "\x0a\x80\x00\x00\x00", "\xfa\xff\xff\xff\x0f"+short(size)+text, api.ErrCut)
		}
	}
	// Places that are counted from the text's beginning are no bytes that are left.
	wantFail(t, strings.Repeat("x", 100), "\x0a\x04abc", api.ErrCut)
	wantNext(t, strings.Repeat("x", 100), "\x0a\x03abc", "", pread.Field{Number: 1, Wire: 2, Text: "abc"})
}

// 17.2 and 3.2: a tag, a number or a size whose number is too great; the bytes that then lack count for nothing.
func TestNextOfTooGreat(t *testing.T) {
	for _, nine := range []string{"\x80\x80\x80\x80\x80\x80\x80\x80\x80", "\x8a\x80\x80\x80\x80\x80\x80\x80\x80", "\xff\xff\xff\xff\xff\xff\xff\xff\xff", "\x83\x80\x80\x80\x80\x80\x80\x80\x80"} {
		for _, tenth := range []string{"\x02", "\x03", "\x7f", "\x80", "\x81", "\xff"} {
			for _, tag := range []string{"", "\x08", "\x0a", "\xf8\xff\xff\xff\x0f", "\xfa\xff\xff\xff\x0f"} {
				for _, behind := range []string{"", "\x00", "abc", strings.Repeat("\x08\x01", 200)} {
					wantFail(t, "", tag+nine+tenth+behind, api.ErrRange)
					wantFail(t, "\x08", tag+nine+tenth+behind, api.ErrRange)
				}
			}
		}
	}
}

// 17.2 and 16.2: bytes that are no tag, by the wire type, the number 0, or a number beyond the greatest one; what stands
// behind them counts for nothing, not even if it is wrong, or lacks.
func TestNextOfNoTag(t *testing.T) {
	list := []string{"\x8a\x80\x80\x80\x80\x01", "\xff\xff\xff\xff\xff\xff\xff\xff\xff\x01", "\xfb\xff\xff\xff\x0f", "\x88\x80\x80\x80\x80\x80\x80\x80\x80\x01"}
	for wire := range 8 {
		for _, number := range []int{0, most + 1, most + 2, 1 << 30, 1<<32 + 1, 1<<61 - 1, 1 << 60} {
			list = append(list, tagOf(number, wire))
		}
		if wire == 3 || wire == 4 || wire == 6 || wire == 7 {
			for _, number := range numbers {
				list = append(list, tagOf(number, wire))
			}
		}
	}
	for _, s := range list {
		for _, behind := range []string{"", "\x00", "\x03abc", "\x80", "\xff\xff\xff\xff\xff\xff\xff\xff\xff\x02", "\x00\x00\x00\x00\x00\x00\x00\x00"} {
			wantFail(t, "", s+behind, api.ErrWire)
			wantFail(t, "\x08\x01", s+behind, api.ErrWire)
		}
	}
}

// 17.2: a cursor that has an error keeps it, whatever stands there, and no field is read.
func TestNextOfFailed(t *testing.T) {
	for _, code := range []api.Code{api.ErrCut, api.ErrTail, api.ErrForm, api.ErrRange, api.ErrNone, api.ErrArg, api.ErrWire, api.ErrWeight, -1} {
		list := []string{"", "\x00", "\x0b", "\x08", "\x80", "\x0a\x04abc", "\x0d\x00", "\x0a\xff\xff\xff\xff\xff\xff\xff\xff\xff\x01", "\xff\xff\xff\xff\xff\xff\xff\xff\xff\x02"}
		for _, one := range written {
			list = append(list, one.s)
		}
		for _, s := range list {
			c := cursor.New("x" + s)
			c.Byte()
			c.Fail(code)
			for range 2 {
				if got := pread.Next(c); got != (pread.Field{}) || c.Err() != code || c.At() != 1 || c.Left() != len(s) {
					t.Errorf("%q with error %d: %v, error %d, at %d, left %d", s, code, got, c.Err(), c.At(), c.Left())
				}
			}
		}
	}
}

// 17.2: behind what was no field none is read any more, and the first error stays.
func TestNextBehindWrong(t *testing.T) {
	for s, want := range map[string]api.Code{
		"\x0b": api.ErrWire, "\x00": api.ErrWire, "\x08\xff\xff\xff\xff\xff\xff\xff\xff\xff\x02": api.ErrRange, "\x0a\x7f": api.ErrCut,
		"\x0a\xff\xff\xff\xff\xff\xff\xff\xff\xff\x01": api.ErrCut,
	} {
		c := cursor.New(s + "\x08\x01\x08\x02\x08\x03")
		for range 4 {
			if got := pread.Next(c); got != (pread.Field{}) || c.Err() != want {
				t.Errorf("behind %q: %v, error %d, want %d", s, got, c.Err(), want)
			}
		}
	}
}

// 17.2 and R6: of a cursor that is nil no field, and no panic.
func TestNextOfNil(t *testing.T) {
	if got := pread.Next(nil); got != (pread.Field{}) {
		t.Error(got)
	}
}

// wantAll holds All of s against fields.
func wantAll(t *testing.T, s string, want []pread.Field) {
	t.Helper()
	if got, code := pread.All(s); code != api.OK || !slices.Equal(got, want) {
		t.Errorf("All(%.100q): %.300v, code %d; want %.300v", s, got, code, want)
	}
}

// 17.2: the chapter's example, no bytes, and many fields of one number and of several, in order.
func TestAll(t *testing.T) {
	wantAll(t, "", nil)
	wantAll(t, "\x08\x96\x01", []pread.Field{{Number: 1, Num: 150}})
	wantAll(t, "\x08\x02\x08\x01\x08\x02", []pread.Field{{Number: 1, Num: 2}, {Number: 1, Num: 1}, {Number: 1, Num: 2}})
	wantAll(t, "\x12\x01b\x08\x05\x12\x00\x0d\x04\x03\x02\x01\x12\x02\xffa\x09\x08\x07\x06\x05\x04\x03\x02\x01\x08\x00", []pread.Field{
		{Number: 2, Wire: 2, Text: "b"}, {Number: 1, Num: 5}, {Number: 2, Wire: 2}, {Number: 1, Wire: 5, Num: 0x01020304},
		{Number: 2, Wire: 2, Text: "\xffa"}, {Number: 1, Wire: 1, Num: 0x0102030405060708}, {Number: 1}})
	var s string
	var fields []pread.Field
	for _, one := range written {
		s += one.s
		fields = append(fields, one.f)
		wantAll(t, one.s, []pread.Field{one.f})
		wantAll(t, s, fields)
	}
	wantAll(t, strings.Repeat(s, 40), slices.Repeat(fields, 40))
	wantAll(t, strings.Repeat("\x08\x01", 100000), slices.Repeat([]pread.Field{{Number: 1, Num: 1}}, 100000))
}

// 17.2: what stands in a Text is no field of the whole.
func TestAllWithin(t *testing.T) {
	wantAll(t, "\x0a\x03\x08\x96\x01\x10\x01", []pread.Field{{Number: 1, Wire: 2, Text: "\x08\x96\x01"}, {Number: 2, Num: 1}})
	wantAll(t, "\x0a\x02\x0b\x80", []pread.Field{{Number: 1, Wire: 2, Text: "\x0b\x80"}})
}

// 17.2: one wrong field behind right ones, of each wire type: its error, and none of them, whatever stands behind it.
func TestAllWrong(t *testing.T) {
	var right string
	for _, one := range written {
		right += one.s
	}
	wrongs := map[string]api.Code{
		"\x0b": api.ErrWire, "\x00\x00": api.ErrWire, "\x80\x80\x80\x80\x10\x00": api.ErrWire,
		"\x08": api.ErrCut, "\x80": api.ErrCut, "\x08\x80": api.ErrCut, "\x0a\x80": api.ErrCut, "\x0a\x01": api.ErrCut, "\x12\x03ab": api.ErrCut,
		"\x09\x00": api.ErrCut, "\x09\x00\x00\x00\x00\x00\x00\x00": api.ErrCut, "\x0d\x00\x00\x00": api.ErrCut, "\x0d": api.ErrCut,
		"\x12\xff\xff\xff\xff\xff\xff\xff\xff\xff\x01":     api.ErrCut,
		"\x08\xff\xff\xff\xff\xff\xff\xff\xff\xff\x02":     api.ErrRange,
		"\x0a\x80\x80\x80\x80\x80\x80\x80\x80\x80\x80\x00": api.ErrRange,
		"\x88\x80\x80\x80\x80\x80\x80\x80\x80\x80\x00\x01": api.ErrRange,
	}
	for s, want := range wrongs {
		for _, ahead := range []string{"", "\x08\x01", right} {
			if l, code := pread.All(ahead + s); len(l) != 0 || code != want {
				t.Errorf("All of %q behind %d bytes: %d fields, code %d, want %d", s, len(ahead), len(l), code, want)
			}
			if want == api.ErrCut {
				continue
			}
			for _, behind := range []string{"\x08\x01", "\x0b", "\x0d", right} {
				if l, code := pread.All(ahead + s + behind); len(l) != 0 || code != want {
					t.Errorf("All of %q between %d and %d bytes: %d fields, code %d, want %d", s, len(ahead), len(behind), len(l), code, want)
				}
			}
		}
	}
}

// wantRead holds All of s, and Next on and on, against what is made apart.
func wantRead(t *testing.T, s string) {
	t.Helper()
	want, code := fieldsOf(s)
	got, was := pread.All(s)
	if was != code || !slices.Equal(got, want) {
		t.Errorf("All(%q): %v, code %d; want %v, code %d", s, got, was, want, code)
	}
	c := cursor.New(s)
	for c.Err() == api.OK && c.Left() > 0 {
		from := c.At()
		f, count, code := fieldOf(s[from:])
		if got := pread.Next(c); got != f || c.Err() != code || code == api.OK && c.At() != from+count {
			t.Errorf("Next of %q at %d: %v, error %d, at %d; want %v, error %d, %d bytes", s, from, got, c.Err(), c.At(), f, code, count)
		}
	}
}

// 17.1 and 17.2: each text of at most four of these bytes, and each of two bytes of any kind.
func TestReadOfAnyBytes(t *testing.T) {
	const letters = "\x00\x01\x02\x03\x05\x08\x09\x0a\x0b\x0c\x0d\x0e\x0f\x10\x12\x7a\x7f\x80\x81\x88\x8a\xff"
	var each func(s string, more int)
	each = func(s string, more int) {
		wantRead(t, s)
		if more == 0 {
			return
		}
		for i := range len(letters) {
			each(s+letters[i:i+1], more-1)
		}
	}
	each("", 4)
	for one := range 256 {
		for other := range 256 {
			wantRead(t, string([]byte{byte(one), byte(other)}))
		}
	}
}

// 17.1 and 17.2: texts of pieces by chance, the same ones each time, most of which are right.
func TestReadOfChance(t *testing.T) {
	pieces := []string{"\x0b", "\x00", "\x80", "\xff", "\x08", "\x0a", "\x0a\x05", "\x09", "\x0d", "\x12\xff\xff\xff\xff\xff\xff\xff\xff\xff\x01", "\x08\x80\x80\x80\x80\x80\x80\x80\x80\x80\x02", "\x80\x80\x80\x80\x10"}
	chance := rand.New(rand.NewSource(17))
	list := all()
	for range 20000 {
		var s string
		for range chance.Intn(6) {
			f := list[chance.Intn(len(list))]
			if chance.Intn(8) == 0 {
				s += pieces[chance.Intn(len(pieces))]
			} else if len(f.Text) < 300 {
				tag := tagOf(f.Number, f.Wire)
				s += longer(tag, len(tag)+chance.Intn(11-len(tag))) + restOf(f)
			}
		}
		if len(s) > 0 && chance.Intn(4) == 0 {
			s = s[:chance.Intn(len(s))]
		}
		wantRead(t, s)
	}
}

// wantPut asks Put and Size of a field with these bytes.
func wantPut(t *testing.T, f pread.Field, s string) {
	t.Helper()
	for _, b := range [][]byte{nil, {}, {0}, {128}, []byte("abc"), make([]byte, 2, 600)} {
		if got := pread.Put(b, f); string(got) != string(b)+s {
			t.Errorf("Put(%q, %.100v): %.100q, want %.100q behind it", b, f, got, s)
		}
	}
	if n := pread.Size(f); n != len(s) {
		t.Errorf("Size(%.100v): %d, want %d", f, n, len(s))
	}
}

// 17.3: fields with their bytes written out.
func TestPutWritten(t *testing.T) {
	for _, one := range written {
		wantPut(t, one.f, one.s)
	}
}

// 17.3: any field's bytes, behind none and some, and how many they are.
func TestPut(t *testing.T) {
	for _, f := range all() {
		wantPut(t, f, bytesOf(f))
	}
}

// 17.3: of Num the lowest 32 bits alone are laid for Fixed32.
func TestPutOfMoreBits(t *testing.T) {
	wantPut(t, pread.Field{Number: 1, Wire: 5, Num: 1 << 32}, "\x0d\x00\x00\x00\x00")
	wantPut(t, pread.Field{Number: 1, Wire: 5, Num: math.MaxUint64}, "\x0d\xff\xff\xff\xff")
	wantPut(t, pread.Field{Number: 1, Wire: 5, Num: 0x0807060504030201}, "\x0d\x01\x02\x03\x04")
	wantPut(t, pread.Field{Number: 1, Wire: 5, Num: 1<<63 + 7}, "\x0d\x07\x00\x00\x00")
	for _, u := range nums() {
		f := pread.Field{Number: 16, Wire: 5, Num: u}
		wantPut(t, f, bytesOf(f))
		wantAll(t, string(pread.Put(nil, f)), []pread.Field{{Number: 16, Wire: 5, Num: u % (1 << 32)}})
	}
}

// 17.3: Num is not laid for Bytes, nor Text for the other three, whatever they are, nor do they count.
func TestPutBeside(t *testing.T) {
	wantPut(t, pread.Field{Number: 1, Wire: 0, Num: 150, Text: "abc"}, "\x08\x96\x01")
	wantPut(t, pread.Field{Number: 1, Wire: 1, Num: 150, Text: "abc"}, "\x09\x96\x00\x00\x00\x00\x00\x00\x00")
	wantPut(t, pread.Field{Number: 1, Wire: 2, Num: 150, Text: "abc"}, "\x0a\x03abc")
	wantPut(t, pread.Field{Number: 1, Wire: 5, Num: 150, Text: "abc"}, "\x0d\x96\x00\x00\x00")
	for _, f := range some {
		s := bytesOf(f)
		for _, text := range texts() {
			for _, u := range []uint64{0, 1, 128, math.MaxUint64} {
				beside := f
				if f.Wire == 2 {
					beside.Num = u
				} else {
					beside.Text = text
				}
				wantPut(t, beside, s)
				wantAll(t, string(pread.Put(nil, beside)), []pread.Field{f})
			}
		}
	}
}

// 17.3: where there is no tag of the number and the wire type, nothing stands behind b, and Size is 0.
func TestPutOfNoTag(t *testing.T) {
	for _, f := range nones() {
		wantPut(t, f, "")
	}
}

// 17.3 and 17.2: of what Put laid, one behind the other, All tells the fields again; those that are none are left out.
func TestPutOnAndOn(t *testing.T) {
	var b []byte
	size := 0
	var want []pread.Field
	for i, f := range all()[:400] {
		b = pread.Put(b, f)
		b = pread.Put(b, nones()[i%len(nones())])
		size += pread.Size(f)
		want = append(want, f)
	}
	if size != len(b) {
		t.Errorf("%d bytes, want %d", len(b), size)
	}
	wantAll(t, string(b), want)
	for _, f := range all() {
		wantAll(t, string(pread.Put(nil, f)), []pread.Field{f})
	}
}

// 17.3 and 17.2: fields by chance, the same ones each time, come back of what Put laid.
func TestPutOfChance(t *testing.T) {
	chance := rand.New(rand.NewSource(18))
	for range 20000 {
		f := pread.Field{Number: 1 + chance.Intn(most)>>chance.Intn(29), Wire: []int{0, 1, 2, 5}[chance.Intn(4)]}
		switch f.Wire {
		case 0, 1:
			f.Num = chance.Uint64() >> chance.Intn(64)
		case 5:
			f.Num = uint64(chance.Uint32()) >> chance.Intn(32)
		case 2:
			text := make([]byte, chance.Intn(300))
			chance.Read(text)
			f.Text = string(text)
		}
		s := bytesOf(f)
		if got := pread.Put(nil, f); string(got) != s || pread.Size(f) != len(s) {
			t.Errorf("%v: %q, size %d, want %q", f, got, pread.Size(f), s)
		}
		wantAll(t, s, []pread.Field{f})
	}
}

// behind tells a field's bytes behind others, and these alone, if there is no such tag.
func behind(b string, f pread.Field) string {
	if f.Wire == 3 {
		return b
	}
	return b + bytesOf(f)
}

// 17.3 and R3: a new list: neither b, nor what lies behind its length, is written to, and no answer shares with b, or
// with another answer, also where nothing is put.
func TestPutApart(t *testing.T) {
	const whole = "0123456789abcdefghij"
	list := append(slices.Clone(some), pread.Field{Number: 1, Wire: 3})
	for _, first := range list {
		for _, second := range list {
			for _, have := range []int{0, 3, 20} {
				b := []byte(whole)
				one, other := pread.Put(b[:have], first), pread.Put(b[:have], second)
				if string(b) != whole {
					t.Errorf("Put of %v, or of %v, writes to what it was handed: %q", first, second, b)
				}
				if want := behind(whole[:have], first); string(one) != want {
					t.Errorf("the first answer changed with the second: %q, want %q", one, want)
				}
				fill(one[:cap(one)], 'x')
				fill(b, 'y')
				if want := behind(whole[:have], second); string(other) != want {
					t.Errorf("the second answer changed with the first, or with b: %q, want %q", other, want)
				}
				fill(other[:cap(other)], 'z')
				if want := strings.Repeat("y", len(whole)); string(b) != want {
					t.Errorf("what was handed in changed with an answer: %q", b)
				}
			}
		}
	}
}

// fill lays one byte at each place.
func fill(list []byte, b byte) {
	for i := range list {
		list[i] = b
	}
}

// 17.3 and R3: what lay behind b's length is not handed out behind the answer's.
func TestPutHidesRest(t *testing.T) {
	for _, have := range []int{0, 2, 63} {
		b := bytes.Repeat([]byte{'s'}, 64)
		for _, f := range append(slices.Clone(some), pread.Field{Number: 1, Wire: 3}) {
			got := pread.Put(b[:have], f)
			if rest := got[len(got):cap(got)]; bytes.Contains(rest, []byte{'s'}) {
				t.Errorf("Put of %v hands out %q", f, rest)
			}
		}
	}
}

// 17.2 and R3: All's lists are new ones: what is written into one is not seen in another one.
func TestAllApart(t *testing.T) {
	const s = "\x08\x01\x0a\x01a"
	one, _ := pread.All(s)
	other, _ := pread.All(s)
	one[0] = pread.Field{Number: 9}
	_ = append(one[:1], pread.Field{Number: 8})
	if want := []pread.Field{{Number: 1, Num: 1}, {Number: 1, Wire: 2, Text: "a"}}; !slices.Equal(other, want) {
		t.Error(other)
	}
	wantAll(t, s, []pread.Field{{Number: 1, Num: 1}, {Number: 1, Wire: 2, Text: "a"}})
}
