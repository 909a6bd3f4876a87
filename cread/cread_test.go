package cread_test

import (
	"math"
	"math/big"
	"math/rand"
	"slices"
	"strconv"
	"strings"
	"testing"
	"time"

	"truchman/api"
	"truchman/chead"
	"truchman/cread"
)

// deepest is how many others what is read may stand within at most.
const deepest = 31

// The kinds, written out.
const (
	isTrue   = 1
	isFalse  = 2
	isByte   = 3
	isI16    = 4
	isI32    = 5
	isI64    = 6
	isDouble = 7
	isText   = 8
	isList   = 9
	isSet    = 10
	isMap    = 11
	isStruct = 12
)

// kinds are all of them.
var kinds = []byte{1, 2, 3, 4, 5, 6, 7, 8, 9, 10, 11, 12}

// holders are the kinds of what has things within it.
var holders = []byte{isList, isSet, isMap, isStruct}

// wholes are the kinds of numbers, with how many bits each has.
var wholes = []struct {
	kind byte
	bits uint
}{{isI16, 16}, {isI32, 32}, {isI64, 64}}

// behinds are bytes that may stand behind a struct, whatever they are.
var behinds = []string{"", "\x00", "\x01", "\x0d", "\xff", "\x80\x80", "\x18\x05a", strings.Repeat("\xff", 11)}

// one tells a text of one byte.
func one(b byte) string {
	return string([]byte{b})
}

// sevens tells a number's bytes by its digits to the base 2: cut by sevens from the right, with a digit 1 ahead of each
// but those that stand leftmost.
func sevens(u uint64) string {
	digits := strconv.FormatUint(u, 2)
	var l []byte
	for len(digits) > 0 {
		cut := max(0, len(digits)-7)
		seven, _ := strconv.ParseUint(digits[cut:], 2, 8)
		if cut > 0 {
			seven += 128
		}
		l = append(l, byte(seven))
		digits = digits[:cut]
	}
	return string(l)
}

// folded tells the bytes of a number with a sign: twice it, or, below 0, twice what it is without the sign, less 1.
func folded(n int64) string {
	twice := new(big.Int).Mul(big.NewInt(n), big.NewInt(2))
	if twice.Sign() < 0 {
		twice.Neg(twice)
		twice.Sub(twice, big.NewInt(1))
	}
	return sevens(twice.Uint64())
}

// longer tells bytes with bits that are 0 alone at their end, count bytes in all.
func longer(s string, count int) string {
	if count == len(s) {
		return s
	}
	last := len(s) - 1
	return s[:last] + one(s[last]+128) + strings.Repeat("\x80", count-len(s)-1) + "\x00"
}

// lowFirst tells the eight bytes of a number by its digits to the base 16, two by two from the right.
func lowFirst(u uint64) string {
	digits := strconv.FormatUint(u, 16)
	digits = strings.Repeat("0", 16-len(digits)) + digits
	var l []byte
	for i := 14; i >= 0; i -= 2 {
		b, _ := strconv.ParseUint(digits[i:i+2], 16, 8)
		l = append(l, byte(b))
	}
	return string(l)
}

// list tells a list's bytes, or a set's, of things of a kind.
func list(kind byte, things ...string) string {
	n := len(things)
	all := strings.Join(things, "")
	if n < 15 {
		return one(byte(n)<<4|kind) + all
	}
	return one(0xf0|kind) + sevens(uint64(n)) + all
}

// entries tells a map's bytes, of keys of one kind, and values of another one, by turns.
func entries(key, val byte, things ...string) string {
	if len(things) == 0 {
		return "\x00"
	}
	return sevens(uint64(len(things)/2)) + one(key<<4|val) + strings.Join(things, "")
}

// fields tells a struct's bytes, of fields that stand one behind the other.
func fields(all ...string) string {
	return strings.Join(all, "") + "\x00"
}

// near tells a field whose number is so far above the last one, in the first form.
func near(by, kind byte, value string) string {
	return one(by<<4|kind) + value
}

// far tells a field of a number in the second form.
func far(id int, kind byte, value string) string {
	return one(kind) + folded(int64(id)) + value
}

// times tells something so many times.
func times(n int, s string) []string {
	return slices.Repeat([]string{s}, n)
}

// thing is what is read, its bytes as a field's value, and those as a value of a list.
type thing struct {
	field cread.Field
	value string
	item  string
}

// as tells what is read, as a field of a number, or at a place.
func (x thing) as(id int) cread.Field {
	x.field.ID = id
	return x.field
}

// truth is a truth, whose byte within a list this is.
func truth(b byte) thing {
	if b == 1 {
		return thing{cread.Field{Kind: isTrue, Num: 1}, "", one(b)}
	}
	return thing{cread.Field{Kind: isFalse}, "", one(b)}
}

// small is a byte.
func small(n int8) thing {
	s := one(byte(n))
	return thing{cread.Field{Kind: isByte, Num: int(n)}, s, s}
}

// whole is a number of a kind.
func whole(kind byte, n int64) thing {
	s := folded(n)
	return thing{cread.Field{Kind: kind, Num: int(n)}, s, s}
}

// double is a double of these bits.
func double(bits uint64) thing {
	s := lowFirst(bits)
	return thing{cread.Field{Kind: isDouble, Bits: bits}, s, s}
}

// text is a text.
func text(s string) thing {
	all := sevens(uint64(len(s))) + s
	return thing{cread.Field{Kind: isText, Text: s}, all, all}
}

// holder is something of a kind that may have things within it, with these bytes.
func holder(kind byte, s string) thing {
	return thing{cread.Field{Kind: kind, Raw: s}, s, s}
}

// some are things of each kind, with the edges of each.
func some() []thing {
	l := []thing{truth(0), truth(1), truth(2)}
	for _, n := range []int8{0, 1, 127, -128, -127, -1} {
		l = append(l, small(n))
	}
	for _, x := range wholes {
		for _, n := range []int64{0, -1, 1, 63, -64, 64, -65, 300, -300, lowest(x.bits), lowest(x.bits) + 1, greatest(x.bits), greatest(x.bits) - 1} {
			l = append(l, whole(x.kind, n))
		}
	}
	for _, u := range []uint64{0, 1, math.MaxUint64, 1 << 63, 0x3ff0000000000000, 0x0102030405060708, math.Float64bits(math.NaN())} {
		l = append(l, double(u))
	}
	for _, s := range []string{"", "a", "\x00", "\x80", "\xff\xfe", "abc\x00\x0d", strings.Repeat("\xe2\x82\xac", 50), strings.Repeat("x", 127), strings.Repeat("y", 128)} {
		l = append(l, text(s))
	}
	for _, s := range []string{"\x03", "\x01", "\xf3\x00", "\x21\x00\x02", "\x13\x00", "\x19\x1a\x28\x00\x01b", list(isText, times(14, "\x01a")...), list(isStruct, times(15, "\x00")...), list(isMap, times(200, "\x00")...)} {
		l = append(l, holder(isList, s), holder(isSet, s))
	}
	for _, s := range []string{"\x00", "\x80\x00", "\x01\x33ab", "\x02\x12\x00\x01\x02\x00", "\x01\x8b\x00\x01\xc9\x00\x03"} {
		l = append(l, holder(isMap, s))
	}
	for _, s := range []string{"\x00", "\x11\x00", "\x12\x12\x00", "\x18\x01a\x03\x01z\x00", "\x1c\x19\x0c\x1c\x00\x00\x00", "\xf6" + strings.Repeat("\xff", 9) + "\x01\x00"} {
		l = append(l, holder(isStruct, s))
	}
	return l
}

// lowest and greatest tell the bounds of a number of so many bits, by its digits to the base 2.
func lowest(bits uint) int64 {
	n, _ := strconv.ParseInt("-1"+strings.Repeat("0", int(bits)-1), 2, 64)
	return n
}

func greatest(bits uint) int64 {
	n, _ := strconv.ParseInt(strings.Repeat("1", int(bits)-1), 2, 64)
	return n
}

// wantStruct reads the struct that all of s is, ahead of whatever.
func wantStruct(t *testing.T, deep int, s string, want ...cread.Field) {
	t.Helper()
	for _, behind := range behinds {
		l, size, code := cread.Struct(s+behind, deep)
		if code != api.OK || size != len(s) || !slices.Equal(l, want) {
			t.Errorf("Struct within %d of %q ahead of %q: %+v, %d, %d, want %+v, %d", deep, s, behind, l, size, code, want, len(s))
		}
	}
}

// wantNoStruct asks to read a struct, where there is an error.
func wantNoStruct(t *testing.T, deep int, s string, want api.Code) {
	t.Helper()
	l, size, code := cread.Struct(s, deep)
	if code != want || size != 0 || len(l) != 0 {
		t.Errorf("Struct within %d of %q: %+v, %d, %d, want %d", deep, s, l, size, code, want)
	}
}

// wantItems reads the list that all of s is; with any bytes behind it, it is none.
func wantItems(t *testing.T, deep int, s string, want ...cread.Field) {
	t.Helper()
	l, code := cread.Items(s, deep)
	if code != api.OK || !slices.Equal(l, want) {
		t.Errorf("Items within %d of %q: %+v, %d, want %+v", deep, s, l, code, want)
	}
	for _, behind := range behinds[1:] {
		wantNoItems(t, deep, s+behind, api.ErrTail)
	}
}

// wantNoItems asks to read a list, where there is an error.
func wantNoItems(t *testing.T, deep int, s string, want api.Code) {
	t.Helper()
	l, code := cread.Items(s, deep)
	if code != want || len(l) != 0 {
		t.Errorf("Items within %d of %q: %+v, %d, want %d", deep, s, l, code, want)
	}
}

// wantNeither asks to read a thing's bytes, as a struct's field's value, and as a list's value, where there is an error.
func wantNeither(t *testing.T, kind byte, s string, want api.Code) {
	t.Helper()
	for _, deep := range []int{0, 1, 30} {
		for by := byte(1); by <= 15; by += 7 {
			wantNoStruct(t, deep, near(by, kind, s), want)
			wantNoStruct(t, deep, "\x18\x01a\x11"+near(by, kind, s), want)
		}
		for _, id := range []int{0, 1, -1, 32767, -32768} {
			wantNoStruct(t, deep, far(id, kind, s), want)
		}
		for n := byte(1); n < 15; n++ {
			wantNoItems(t, deep, one(n<<4|kind)+s, want)
		}
		wantNoItems(t, deep, one(0xf0|kind)+"\x01"+s, want)
		wantNoItems(t, deep, one(0xf0|kind)+"\xff\x01"+s, want)
	}
}

// 22.1, 22.2: the chapter's example, and other structs, written out.
func TestStructWritten(t *testing.T) {
	wantStruct(t, 0, "\x16\x0a\x00", cread.Field{ID: 1, Kind: isI64, Num: 5})
	wantStruct(t, 0, "\x00")
	wantStruct(t, 0, "\x11\x00", cread.Field{ID: 1, Kind: isTrue, Num: 1})
	wantStruct(t, 0, "\x12\x00", cread.Field{ID: 1, Kind: isFalse})
	wantStruct(t, 0, "\x13\xff\x00", cread.Field{ID: 1, Kind: isByte, Num: -1})
	wantStruct(t, 0, "\x24\x07\x00", cread.Field{ID: 2, Kind: isI16, Num: -4})
	wantStruct(t, 0, "\x35\xac\x02\x00", cread.Field{ID: 3, Kind: isI32, Num: 150})
	wantStruct(t, 0, "\x46\xd7\x04\x00", cread.Field{ID: 4, Kind: isI64, Num: -300})
	wantStruct(t, 0, "\x57\x00\x00\x00\x00\x00\x00\xf0\x3f\x00", cread.Field{ID: 5, Kind: isDouble, Bits: 0x3ff0000000000000})
	wantStruct(t, 0, "\x68\x02a\xff\x00", cread.Field{ID: 6, Kind: isText, Text: "a\xff"})
	wantStruct(t, 0, "\x79\x21\x01\x02\x00", cread.Field{ID: 7, Kind: isList, Raw: "\x21\x01\x02"})
	wantStruct(t, 0, "\x8a\x03\x00", cread.Field{ID: 8, Kind: isSet, Raw: "\x03"})
	wantStruct(t, 0, "\x9b\x01\x83\x01k\x05\x00", cread.Field{ID: 9, Kind: isMap, Raw: "\x01\x83\x01k\x05"})
	wantStruct(t, 0, "\xac\x16\x0a\x00\x00", cread.Field{ID: 10, Kind: isStruct, Raw: "\x16\x0a\x00"})
	wantStruct(t, 0, "\x0c\x03\x00\x15\x02\x08\x01\x00\x11\xf2\x00",
		cread.Field{ID: -2, Kind: isStruct, Raw: "\x00"}, cread.Field{ID: -1, Kind: isI32, Num: 1},
		cread.Field{ID: -1, Kind: isText}, cread.Field{ID: 0, Kind: isTrue, Num: 1}, cread.Field{ID: 15, Kind: isFalse})
}

// 22.1: the kinds are those of chead by their names.
func TestNames(t *testing.T) {
	wantStruct(t, 0, "\x11\x12\x13\x05\x14\x02\x15\x04\x16\x06\x17"+lowFirst(7)+"\x18\x01a\x19\x03\x1a\x05\x1b\x00\x1c\x00\x00",
		cread.Field{ID: 1, Kind: chead.True, Num: 1}, cread.Field{ID: 2, Kind: chead.False},
		cread.Field{ID: 3, Kind: chead.Byte, Num: 5}, cread.Field{ID: 4, Kind: chead.I16, Num: 1},
		cread.Field{ID: 5, Kind: chead.I32, Num: 2}, cread.Field{ID: 6, Kind: chead.I64, Num: 3},
		cread.Field{ID: 7, Kind: chead.Double, Bits: 7}, cread.Field{ID: 8, Kind: chead.Text, Text: "a"},
		cread.Field{ID: 9, Kind: chead.List, Raw: "\x03"}, cread.Field{ID: 10, Kind: chead.Set, Raw: "\x05"},
		cread.Field{ID: 11, Kind: chead.Map, Raw: "\x00"}, cread.Field{ID: 12, Kind: chead.Struct, Raw: "\x00"})
}

// wantEverywhere reads a thing as a field's value and as a list's, alone, and among others, at several depths.
func wantEverywhere(t *testing.T, x thing) {
	t.Helper()
	kind := x.field.Kind
	for _, deep := range []int{0, 1, 17} {
		wantStruct(t, deep, fields(near(1, kind, x.value)), x.as(1))
		wantStruct(t, deep, fields(far(-300, kind, x.value)), x.as(-300))
		wantStruct(t, deep, fields(near(15, kind, x.value), "\x18\x01a", near(2, kind, x.value), far(16, kind, x.value)),
			x.as(15), cread.Field{ID: 16, Kind: isText, Text: "a"}, x.as(18), x.as(16))
		wantItems(t, deep, list(kind, x.item), x.as(0))
		wantItems(t, deep, one(0xf0|kind)+"\x81\x00"+x.item, x.as(0))
		wantItems(t, deep, list(kind, x.item, x.item, x.item), x.as(0), x.as(1), x.as(2))
		var want []cread.Field
		for id := range 15 {
			want = append(want, x.as(id))
		}
		wantItems(t, deep, list(kind, times(14, x.item)...), want[:14]...)
		wantItems(t, deep, list(kind, times(15, x.item)...), want...)
	}
}

// 22.1 to 22.3: things of each kind, with what they have; what a kind has not is nothing.
func TestEachKind(t *testing.T) {
	for _, x := range some() {
		wantEverywhere(t, x)
	}
}

// 22.1: a truth as a field has no bytes: what stands behind its head is the next head at once.
func TestTruthOfField(t *testing.T) {
	for _, kind := range []byte{isTrue, isFalse} {
		want := cread.Field{ID: 1, Kind: kind, Num: 2 - int(kind)}
		wantStruct(t, 0, one(0x10|kind)+"\x00", want)
		for b := range 256 {
			wantStruct(t, 0, one(0x10|kind)+"\x13"+one(byte(b))+"\x00", want, cread.Field{ID: 2, Kind: isByte, Num: int(int8(b))})
			s := one(0x10|kind) + "\x00" + one(byte(b))
			if l, size, code := cread.Struct(s, 0); code != api.OK || size != 2 || len(l) != 1 {
				t.Errorf("%q: %+v, %d, %d", s, l, size, code)
			}
		}
		wantNoStruct(t, 0, one(0x10|kind), api.ErrCut)
	}
}

// 22.3: a truth within a list is a byte, 0, 1 or 2, of which 1 is true, whichever of the two kinds the head tells; ErrForm
// above 2.
func TestTruthOfList(t *testing.T) {
	yes, no := cread.Field{Kind: isTrue, Num: 1}, cread.Field{Kind: isFalse}
	at := func(f cread.Field, id int) cread.Field {
		f.ID = id
		return f
	}
	for _, kind := range []byte{isTrue, isFalse} {
		for _, holder := range []string{one(0x30 | kind), one(0xf0|kind) + "\x03", one(0xf0|kind) + "\x83\x80\x00"} {
			wantItems(t, 0, holder+"\x00\x01\x02", at(no, 0), at(yes, 1), at(no, 2))
			wantItems(t, 0, holder+"\x01\x01\x02", at(yes, 0), at(yes, 1), at(no, 2))
			wantItems(t, 31, holder+"\x02\x00\x01", at(no, 0), at(no, 1), at(yes, 2))
			for b := 3; b < 256; b++ {
				for _, s := range []string{"\x00\x01", "\x00", "\x02\x02\x01"[:1], ""} {
					for _, behind := range []string{"", "\x00", "\x01\x02\x03"} {
						wantNoItems(t, 0, holder+s+one(byte(b))+behind, api.ErrForm)
					}
				}
			}
			for cut := range 3 {
				wantNoItems(t, 0, holder+"\x00\x01\x02"[:cut], api.ErrCut)
			}
		}
		wantItems(t, 0, one(kind))
	}
}

// 22.1: the number that a byte is with a sign.
func TestByte(t *testing.T) {
	var things []string
	var want []cread.Field
	for b := range 256 {
		n := b
		if b >= 128 {
			n = b - 256
		}
		s := one(byte(b))
		wantStruct(t, 0, fields(near(1, isByte, s)), cread.Field{ID: 1, Kind: isByte, Num: n})
		wantItems(t, 0, list(isByte, s), cread.Field{Kind: isByte, Num: n})
		things, want = append(things, s), append(want, cread.Field{ID: b, Kind: isByte, Num: n})
	}
	wantItems(t, 0, list(isByte, things...), want...)
	wantNeither(t, isByte, "", api.ErrCut)
}

// 22.1, 22.2: numbers around each power of two, up to the bounds of each kind, with more bytes than they need, too; beyond
// the bounds ErrRange.
func TestWhole(t *testing.T) {
	for _, x := range wholes {
		low, high := big.NewInt(lowest(x.bits)), big.NewInt(greatest(x.bits))
		for _, n := range aroundPowers() {
			s := folded(n)
			is := low.Cmp(big.NewInt(n)) <= 0 && big.NewInt(n).Cmp(high) <= 0
			for count := len(s); count <= 10; count++ {
				long := longer(s, count)
				if !is {
					wantNoStruct(t, 0, near(1, x.kind, long), api.ErrRange)
					wantNoStruct(t, 31, fields(far(-5, x.kind, long)), api.ErrRange)
					wantNoItems(t, 0, list(x.kind, long), api.ErrRange)
					wantNoItems(t, 31, list(x.kind, "\x02", long, "\x04"), api.ErrRange)
					continue
				}
				wantStruct(t, 0, fields(near(1, x.kind, long)), cread.Field{ID: 1, Kind: x.kind, Num: int(n)})
				wantItems(t, 31, list(x.kind, "\x02", long), cread.Field{Kind: x.kind, Num: 1}, cread.Field{ID: 1, Kind: x.kind, Num: int(n)})
			}
		}
	}
}

// aroundPowers are the numbers around each power of two, with either sign.
func aroundPowers() []int64 {
	l := []int64{0, 300, -300, 123456789012345678, math.MinInt64, math.MinInt64 + 1, math.MaxInt64, math.MaxInt64 - 1}
	for i := range 63 {
		p := int64(1) << i
		l = append(l, p, p-1, p+1, -p, -p-1, -p+1)
	}
	return l
}

// 22.2, 22.3: the bounds of I16 and I32, written out.
func TestWholeBounds(t *testing.T) {
	wantStruct(t, 0, "\x14\xfe\xff\x03\x00", cread.Field{ID: 1, Kind: isI16, Num: 32767})
	wantStruct(t, 0, "\x14\xff\xff\x03\x00", cread.Field{ID: 1, Kind: isI16, Num: -32768})
	wantNoStruct(t, 0, "\x14\x80\x80\x04\x00", api.ErrRange)
	wantNoStruct(t, 0, "\x14\x81\x80\x04\x00", api.ErrRange)
	wantNoStruct(t, 0, "\x14\xff\xff\x07\x00", api.ErrRange)
	wantStruct(t, 0, "\x15\xfe\xff\xff\xff\x0f\x00", cread.Field{ID: 1, Kind: isI32, Num: 2147483647})
	wantStruct(t, 0, "\x15\xff\xff\xff\xff\x0f\x00", cread.Field{ID: 1, Kind: isI32, Num: -2147483648})
	wantNoStruct(t, 0, "\x15\x80\x80\x80\x80\x10\x00", api.ErrRange)
	wantNoStruct(t, 0, "\x15\x81\x80\x80\x80\x10\x00", api.ErrRange)
	wantStruct(t, 0, "\x16\xfe\xff\xff\xff\xff\xff\xff\xff\xff\x01\x00", cread.Field{ID: 1, Kind: isI64, Num: math.MaxInt64})
	wantStruct(t, 0, "\x16\xff\xff\xff\xff\xff\xff\xff\xff\xff\x01\x00", cread.Field{ID: 1, Kind: isI64, Num: math.MinInt64})
	wantItems(t, 0, "\x24\xfe\xff\x03\xff\xff\x03", cread.Field{Kind: isI16, Num: 32767}, cread.Field{ID: 1, Kind: isI16, Num: -32768})
	wantNoItems(t, 0, "\x24\xfe\xff\x03\x80\x80\x04", api.ErrRange)
	wantNoItems(t, 0, "\x15\x80\x80\x80\x80\x10", api.ErrRange)
}

// 22.2: within what is Raw a number may be any that varint takes.
func TestRawNumbers(t *testing.T) {
	for _, s := range []string{"\x80\x80\x04", "\x81\x80\x04", "\xff\xff\x07", "\x80\x80\x80\x80\x10", strings.Repeat("\xff", 9) + "\x01", strings.Repeat("\x80", 9) + "\x01"} {
		for _, kind := range []byte{isI16, isI32, isI64} {
			for _, x := range []thing{
				holder(isList, list(kind, s, s)),
				holder(isSet, list(kind, s)),
				holder(isMap, entries(kind, kind, s, s)),
				holder(isStruct, fields(near(1, kind, s))),
				holder(isList, list(isStruct, fields(near(1, kind, s)))),
				holder(isStruct, fields(near(1, isSet, list(kind, s)))),
			} {
				wantEverywhere(t, x)
			}
		}
		wantNoStruct(t, 0, near(1, isI16, s), api.ErrRange)
		wantNoItems(t, 0, list(isI16, s), api.ErrRange)
	}
}

// tooGreat are bytes whose number, or what stands for it, varint does not take.
func tooGreat() []string {
	var l []string
	for _, s := range []string{strings.Repeat("\x80", 9), strings.Repeat("\xff", 9), "\x81\x82\x83\x84\x85\x86\x87\x88\x89"} {
		for _, b := range []byte{2, 3, 127, 128, 129, 255} {
			l = append(l, s+one(b))
		}
	}
	return l
}

// 22.2, 22.3: a number that varint does not take has ErrRange, and one that is cut ErrCut, as a value, a text's length, a
// field's number, and a list's count.
func TestNumberWrong(t *testing.T) {
	for _, s := range tooGreat() {
		for _, behind := range []string{"", "\x00", "\x0d", "\x80"} {
			for _, kind := range []byte{isI16, isI32, isI64, isText} {
				wantNeither(t, kind, s+behind, api.ErrRange)
			}
			for _, kind := range kinds {
				wantNoStruct(t, 0, one(kind)+s+behind, api.ErrRange)
				wantNoItems(t, 0, one(0xf0|kind)+s+behind, api.ErrRange)
			}
			wantNeither(t, isList, "\xf3"+s+behind, api.ErrRange)
			wantNeither(t, isMap, s+behind, api.ErrRange)
		}
		for cut := range 9 {
			for _, kind := range []byte{isI16, isI32, isI64, isText, isMap} {
				wantNeither(t, kind, s[:cut], api.ErrCut)
			}
			for _, kind := range kinds {
				wantNoStruct(t, 0, one(kind)+s[:cut], api.ErrCut)
				wantNoItems(t, 0, one(0xf0|kind)+s[:cut], api.ErrCut)
			}
		}
	}
}

// 22.1: of a double the number whose eight bytes, the lowest first, it is; 22.2: ErrCut, if there are fewer.
func TestDouble(t *testing.T) {
	wantStruct(t, 0, "\x17\x01\x02\x03\x04\x05\x06\x07\x88\x00", cread.Field{ID: 1, Kind: isDouble, Bits: 0x8807060504030201})
	wantItems(t, 0, "\x17\x01\x02\x03\x04\x05\x06\x07\x88", cread.Field{Kind: isDouble, Bits: 0x8807060504030201})
	for i := range 64 {
		for _, u := range []uint64{1 << i, 1<<i - 1, math.MaxUint64 - 1<<i, 1<<63 | 1<<i} {
			x := double(u)
			wantStruct(t, 0, fields(near(1, isDouble, x.value)), x.as(1))
			wantItems(t, 0, list(isDouble, x.item, x.item), x.as(0), x.as(1))
		}
	}
	for cut := range 8 {
		wantNeither(t, isDouble, "\x00\x01\x02\x03\x04\x05\x06\x07"[:cut], api.ErrCut)
	}
}

// 22.1: a text of each length up to 300, and some greater, whatever its bytes are; 22.2: ErrCut, if fewer bytes are left
// than its length.
func TestText(t *testing.T) {
	lengths := []int{1000, 16383, 16384, 65536}
	for n := range 301 {
		lengths = append(lengths, n)
	}
	for _, n := range lengths {
		for _, fill := range []string{"\x00", "\xff", "a"} {
			s := strings.Repeat(fill, n)
			head := sevens(uint64(n))
			wantStruct(t, 0, fields(near(1, isText, head+s)), cread.Field{ID: 1, Kind: isText, Text: s})
			wantStruct(t, 0, fields(near(1, isText, longer(head, 10)+s)), cread.Field{ID: 1, Kind: isText, Text: s})
			wantItems(t, 0, list(isText, head+s, head+s), cread.Field{Kind: isText, Text: s}, cread.Field{ID: 1, Kind: isText, Text: s})
			wantItems(t, 0, list(isText, longer(head, 9)+s), cread.Field{Kind: isText, Text: s})
			if n > 0 {
				wantNoStruct(t, 0, near(1, isText, head+s[1:]), api.ErrCut)
				wantNoStruct(t, 0, near(1, isText, head), api.ErrCut)
				wantNoItems(t, 0, list(isText, head+s[1:]), api.ErrCut)
				wantNoItems(t, 0, list(isText, longer(head, 10)+s[:n/2]), api.ErrCut)
			}
		}
	}
	for b := range 256 {
		wantEverywhere(t, text("a"+one(byte(b))))
	}
}

// 22.2, 22.3: a text that is longer than the bytes that are left, by one, and far, up to what is below 0 as an int of 64
// bits, or of 32, or is few as one of fewer bits.
func TestTextTooLong(t *testing.T) {
	for i := range 64 {
		for _, u := range []uint64{1 << i, 1<<i - 1, 1<<i + 1, math.MaxUint64 - 1<<i, math.MaxUint64} {
			for _, left := range []int{0, 1, 2, 7, 127, 128} {
				s := sevens(u) + strings.Repeat("\x00", left)
				if u > uint64(left) {
					wantNoStruct(t, 0, near(1, isText, s), api.ErrCut)
					wantNoStruct(t, 0, near(1, isText, "\x00")+near(1, isText, s), api.ErrCut)
					wantNoItems(t, 0, one(0x10|isText)+s, api.ErrCut)
					wantNoItems(t, 0, one(0x20|isText)+"\x00"+s, api.ErrCut)
				}
			}
		}
	}
	wantNeither(t, isText, "", api.ErrCut)
}

// 22.1, 22.2: of heads of either form, whose numbers are from the lowest to the greatest one.
func TestHeads(t *testing.T) {
	x := text("a")
	for by := byte(1); by <= 15; by++ {
		for _, last := range []int{0, 1, -1, 300, -300, -32768, 32751} {
			first := far(last, isText, x.value)
			wantStruct(t, 0, fields(first, near(by, isText, x.value)), x.as(last), x.as(last+int(by)))
			wantStruct(t, 0, fields(first, near(by, isText, x.value), near(1, isTrue, ""), far(last, isText, x.value)),
				x.as(last), x.as(last+int(by)), truth(1).as(last+int(by)+1), x.as(last))
		}
		wantStruct(t, 0, fields(near(by, isText, x.value)), x.as(int(by)))
		wantStruct(t, 0, fields(near(by, isText, x.value), near(16-by, isFalse, "")), x.as(int(by)), truth(0).as(16))
	}
	for _, id := range []int{0, 1, -1, 15, 16, 63, -64, 64, 300, -300, 32766, 32767, -32767, -32768} {
		for _, other := range []int{0, 1, -1, 15, 300, 32767, -32768} {
			wantStruct(t, 0, fields(far(id, isText, x.value)), x.as(id))
			wantStruct(t, 0, fields(far(other, isTrue, ""), far(id, isText, x.value)), truth(1).as(other), x.as(id))
		}
		for count := len(folded(int64(id))); count <= 10; count++ {
			wantStruct(t, 0, one(isText)+longer(folded(int64(id)), count)+x.value+"\x00", x.as(id))
		}
	}
}

// 22.2: a field's number that is none has ErrRange, whatever stands behind its head.
func TestHeadsOutOfRange(t *testing.T) {
	for _, behind := range []string{"", "\x00", "\x0d", "\x80"} {
		for _, kind := range kinds {
			for _, id := range []int{32768, -32769, 40000, -40000, 65536, 65537, -65536, 1 << 31, 1 << 32, 1<<32 + 1, math.MaxInt64, math.MinInt64} {
				wantNoStruct(t, 0, far(id, kind, behind), api.ErrRange)
				wantNoStruct(t, 0, "\x11"+far(id, kind, behind), api.ErrRange)
			}
			for last := 32753; last <= 32767; last++ {
				for by := 1; by <= 15; by++ {
					s := far(last, isTrue, "") + near(byte(by), kind, behind)
					if last+by > 32767 {
						wantNoStruct(t, 0, s, api.ErrRange)
					}
				}
			}
		}
	}
	wantStruct(t, 0, "\x01\xfc\xff\x03\x12\x00", truth(1).as(32766), truth(0).as(32767))
	wantNoStruct(t, 0, "\x01\xfc\xff\x03\x22\x00", api.ErrRange)
	// 15 times 2184 is 32760, so that 2184 heads may stand there, and 7 ahead or behind.
	if l, size, code := cread.Struct(strings.Repeat("\xf1", 2184)+"\x71\x00", 0); len(l) != 2185 || size != 2186 || code != api.OK || l[2184].ID != 32767 {
		t.Error(len(l), size, code)
	}
	wantNoStruct(t, 0, strings.Repeat("\xf1", 2184)+"\x81\x00", api.ErrRange)
}

// 22.2: many fields, in their order, and one number twice.
func TestMany(t *testing.T) {
	var all []string
	var want []cread.Field
	for i, x := range some() {
		id := (i*7)%40 - 20
		all, want = append(all, far(id, x.field.Kind, x.value)), append(want, x.as(id))
	}
	wantStruct(t, 0, fields(all...), want...)
	slices.Reverse(all)
	slices.Reverse(want)
	wantStruct(t, 1, fields(all...), want...)
	wantStruct(t, 0, "\x13\x01\x03\x02\x02\x03\x02\x03\x01\x02\x00", small(1).as(1), small(2).as(1), small(3).as(1), truth(1).as(1))
	s := fields(times(30000, "\x03\x02a")...)
	l, size, code := cread.Struct(s, 0)
	if len(l) != 30000 || size != len(s) || code != api.OK {
		t.Error(len(l), size, code)
	}
	for _, f := range l {
		if f != small('a').as(1) {
			t.Fatalf("%+v", f)
		}
	}
}

// 22.2: what stands behind a struct does not matter, whatever it is.
func TestBehind(t *testing.T) {
	for _, s := range []string{"\x00", "\x11\x00", "\x16\x0a\x00", "\x18\x00\x00", "\x19\x03\x00", "\x1c\x00\x00"} {
		l, size, code := cread.Struct(s, 0)
		if code != api.OK || size != len(s) {
			t.Errorf("%q: %d, %d", s, size, code)
		}
		for a := range 256 {
			for b := range 256 {
				other, size, code := cread.Struct(s+one(byte(a))+one(byte(b)), 0)
				if code != api.OK || size != len(s) || !slices.Equal(l, other) {
					t.Fatalf("%q ahead of %d, %d: %+v, %d, %d", s, a, b, other, size, code)
				}
			}
		}
	}
	// Structs one behind the other.
	var whole string
	var sizes []int
	for _, x := range some() {
		s := fields(near(3, x.field.Kind, x.value))
		whole, sizes = whole+s, append(sizes, len(s))
	}
	for i, x := range some() {
		l, size, code := cread.Struct(whole, 0)
		if code != api.OK || size != sizes[i] || !slices.Equal(l, []cread.Field{x.as(3)}) {
			t.Fatalf("struct %d: %+v, %d, %d", i, l, size, code)
		}
		whole = whole[size:]
	}
}

// 22.2, 22.3: within 32 others or more there is no struct and no list: ErrDeep, ahead of whatever else, also of no bytes.
func TestTooDeep(t *testing.T) {
	for _, deep := range []int{32, 33, 64, 1000, 1 << 31, 1 << 32, math.MaxInt - 1, math.MaxInt} {
		for _, s := range []string{"", "\x00", "\x01", "\x03", "\x0d", "\x16\x0a\x00", "\x03\x00", "\x21\x01\x02", "\xff", "\x21\x03", strings.Repeat("\xff", 12)} {
			wantNoStruct(t, deep, s, api.ErrDeep)
			wantNoItems(t, deep, s, api.ErrDeep)
		}
	}
	for _, deep := range []int{math.MinInt, -1, 0, 1, 30, 31} {
		wantStruct(t, deep, "\x00")
		wantStruct(t, deep, "\x16\x0a\x00", whole(isI64, 5).as(1))
		wantNoStruct(t, deep, "", api.ErrCut)
		wantItems(t, deep, "\x03")
		wantItems(t, deep, "\x21\x01\x02", truth(1).as(0), truth(2).as(1))
		wantNoItems(t, deep, "", api.ErrCut)
	}
}

// nested tells a thing of levels that stand within each other, outermost first, the innermost of which has no things
// within it; and the kind of the outermost. A letter says of which kind a level is: l, s, m (by its value), k (a map by
// its key), r (a struct).
func nested(levels string) (kind byte, s string) {
	kind, s = 0, ""
	for i := len(levels) - 1; i >= 0; i-- {
		kind, s = around(levels[i], kind, s)
	}
	return kind, s
}

// around tells a thing of one level, with another one within it, if that has a kind.
func around(level byte, kind byte, s string) (byte, string) {
	none := kind == 0
	switch level {
	case 'l', 's':
		holder := byte(isList)
		if level == 's' {
			holder = isSet
		}
		if none {
			return holder, "\x03"
		}
		return holder, list(kind, s)
	case 'm', 'k':
		switch {
		case none:
			return isMap, "\x00"
		case level == 'm':
			return isMap, entries(isByte, kind, "x", s)
		}
		return isMap, entries(kind, isByte, s, "x")
	}
	if none {
		return isStruct, "\x00"
	}
	return isStruct, fields(near(1, kind, s))
}

// chains are levels that stand within each other: of one kind, and by turns.
var chains = []string{"l", "s", "m", "k", "r", "ls", "lm", "lk", "lr", "mr", "kr", "sr", "lsmkr", "rrl", "mkl", "rkmsl"}

// 22.2, 22.3: what stands within is one deeper: so many levels may be in a field or a list's value that the innermost one
// stands within 31 at most; of one more ErrDeep.
func TestDeep(t *testing.T) {
	for _, chain := range chains {
		for from := range len(chain) {
			for _, deep := range []int{-10, -1, 0, 1, 2, 15, 29, 30, 31} {
				for n := 1; n <= 43; n++ {
					kind, s := nested(strings.Repeat(chain, n+2)[from : from+n])
					x := holder(kind, s)
					if deep+n <= deepest {
						wantStruct(t, deep, fields(near(1, kind, s)), x.as(1))
						wantItems(t, deep, list(kind, s), x.as(0))
					} else {
						wantNoStruct(t, deep, fields(near(1, kind, s)), api.ErrDeep)
						wantNoItems(t, deep, list(kind, s), api.ErrDeep)
					}
				}
			}
		}
	}
}

// 22.2, 22.3: within 31 others there is what has nothing within it, and nothing else, whatever its head is.
func TestDeepest(t *testing.T) {
	for _, x := range some() {
		kind := x.field.Kind
		if slices.Contains(holders, kind) {
			wantNoStruct(t, deepest, fields(near(1, kind, x.value)), api.ErrDeep)
			wantNoItems(t, deepest, list(kind, x.item), api.ErrDeep)
			for _, s := range []string{"", "\x0d", "\xff", "\x80", strings.Repeat("\xff", 12)} {
				wantNoStruct(t, deepest, near(1, kind, s), api.ErrDeep)
				wantNoStruct(t, deepest, far(-7, kind, s), api.ErrDeep)
				wantNoItems(t, deepest, one(0x10|kind)+s, api.ErrDeep)
				wantNoItems(t, deepest, one(0xf0|kind)+"\xff\xff\xff\xff\x07"+s, api.ErrDeep)
			}
			wantItems(t, deepest, one(kind))
			wantItems(t, deepest, one(0xf0|kind)+"\x80\x00")
			continue
		}
		wantStruct(t, deepest, fields(near(1, kind, x.value), near(2, kind, x.value)), x.as(1), x.as(3))
		wantItems(t, deepest, list(kind, x.item, x.item), x.as(0), x.as(1))
	}
	wantNoStruct(t, deepest-1, "\x1c\x1c\x00\x00\x00", api.ErrDeep)
	wantStruct(t, deepest-1, "\x1c\x11\x00\x00", holder(isStruct, "\x11\x00").as(1))
	wantNoItems(t, deepest-1, "\x19\x19\x03", api.ErrDeep)
	wantItems(t, deepest-1, "\x19\x11\x01", holder(isList, "\x11\x01").as(0))
}

// 22.3: lists of nothing, of one thing, of 14, of 15 and more, of each kind, whose IDs are their places.
func TestItems(t *testing.T) {
	for _, n := range []int{0, 1, 2, 13, 14, 15, 16, 17, 127, 128, 300} {
		for _, x := range some() {
			if len(x.item) > 40 {
				continue
			}
			var want []cread.Field
			for id := range n {
				want = append(want, x.as(id))
			}
			kind, things := x.field.Kind, times(n, x.item)
			wantItems(t, 0, list(kind, things...), want...)
			head := sevens(uint64(n))
			wantItems(t, 0, one(0xf0|kind)+head+strings.Join(things, ""), want...)
			wantItems(t, 0, one(0xf0|kind)+longer(head, 10)+strings.Join(things, ""), want...)
			if n > 0 {
				wantNoItems(t, 0, strings.TrimSuffix(list(kind, things...), x.item), api.ErrCut)
			}
			wantNoItems(t, 0, list(kind, things...)+x.item, api.ErrTail)
		}
	}
}

// 22.3: things of one kind that are not the same, in their order.
func TestItemsInOrder(t *testing.T) {
	for _, kind := range kinds {
		var things []string
		var want []cread.Field
		for _, x := range slices.Concat(some(), some()) {
			if x.field.Kind == kind || kind == isTrue && x.field.Kind == isFalse || kind == isFalse && x.field.Kind == isTrue {
				things, want = append(things, x.item), append(want, x.as(len(want)))
			}
		}
		wantItems(t, 0, list(kind, things...), want...)
		slices.Reverse(things)
		slices.Reverse(want)
		for id := range want {
			want[id].ID = id
		}
		wantItems(t, 0, list(kind, things...), want...)
	}
}

// 22.3: bytes behind a list have ErrTail, behind each error of its values.
func TestTail(t *testing.T) {
	for _, kind := range kinds {
		for b := range 256 {
			wantNoItems(t, 0, one(kind)+one(byte(b)), api.ErrTail)
			wantNoItems(t, 0, one(0xf0|kind)+"\x00"+one(byte(b)), api.ErrTail)
		}
	}
	for _, x := range []struct {
		s    string
		code api.Code
	}{
		{"\x21\x01\x03", api.ErrForm},
		{"\x14\x80\x80\x04", api.ErrRange},
		{"\x15\x80\x80\x80\x80\x10", api.ErrRange},
		{"\x19\x0d", api.ErrKind},
		{"\x1c\x0d", api.ErrKind},
		{"\x1b\x01\x0d", api.ErrKind},
		{"\x0d", api.ErrKind},
		{"\xf3\x80\x80\x80\x80\x08", api.ErrRange},
		{"\x1c\x01\x80\x80\x04", api.ErrRange},
	} {
		for _, behind := range behinds {
			wantNoItems(t, 0, x.s+behind, x.code)
		}
	}
}

// 22.2, 22.3: a kind that is none in a head has ErrKind, of a list also of nothing, whatever stands behind it.
func TestNoKind(t *testing.T) {
	for _, none := range []byte{0, 13, 14, 15} {
		for _, behind := range []string{"", "\x00", "\x01\x00", "\xff\xff\xff", strings.Repeat("\xff", 12)} {
			for n := range byte(16) {
				wantNoItems(t, 0, one(n<<4|none)+behind, api.ErrKind)
				wantNeither(t, isList, one(n<<4|none)+behind, api.ErrKind)
				if none > 0 || n > 0 {
					wantNoStruct(t, 0, one(n<<4|none)+behind, api.ErrKind)
					wantNoStruct(t, 0, "\x11\x16\x07"+one(n<<4|none)+behind, api.ErrKind)
					wantNeither(t, isStruct, one(n<<4|none)+behind, api.ErrKind)
				}
			}
		}
	}
}

// 22.2, 22.3: a struct, and a list, that is cut short at any of its bytes has ErrCut.
func TestCut(t *testing.T) {
	var all []string
	for i, x := range some() {
		kind := x.field.Kind
		all = append(all, far(i, kind, x.value))
		s := fields(near(1, kind, x.value), far(300, kind, x.value))
		for cut := range s {
			wantNoStruct(t, 0, s[:cut], api.ErrCut)
		}
		for _, s := range []string{list(kind, x.item, x.item), list(kind, times(16, x.item)...)} {
			for cut := range s {
				wantNoItems(t, 0, s[:cut], api.ErrCut)
			}
		}
	}
	s := fields(all...)
	for cut := range s {
		wantNoStruct(t, 0, s[:cut], api.ErrCut)
	}
	wantNoStruct(t, 0, "", api.ErrCut)
	wantNoItems(t, 0, "", api.ErrCut)
}

// quick wants something to be done soon.
func quick(t *testing.T, do func()) {
	t.Helper()
	done := make(chan bool)
	go func() {
		do()
		close(done)
	}()
	select {
	case <-done:
	case <-time.After(30 * time.Second):
		t.Fatal("it takes too long")
	}
}

// 22.3: counts far greater than the bytes that are left, up to the greatest there is, do not take long: ErrCut at the
// first byte that lacks; above the greatest one ErrRange.
func TestCountTooGreat(t *testing.T) {
	quick(t, func() {
		for _, n := range []uint64{3, 15, 16, 100, 65536, 1 << 20, 1 << 30, math.MaxInt32 - 1, math.MaxInt32} {
			for _, x := range some() {
				for have := range 3 {
					things := strings.Repeat(x.item, have)
					wantNoItems(t, 0, one(0xf0|x.field.Kind)+sevens(n)+things, api.ErrCut)
					wantNoItems(t, 0, one(0xf0|x.field.Kind)+longer(sevens(n), 10)+things, api.ErrCut)
				}
			}
		}
		greatest := "\xff\xff\xff\xff\x07"
		wantNoItems(t, 0, strings.Repeat("\xf9"+greatest, 31)+"\xf3"+greatest, api.ErrCut)
		wantNoStruct(t, 0, "\x19"+strings.Repeat("\xf9"+greatest, 30)+"\xf3"+greatest, api.ErrCut)
		wantNoStruct(t, 0, "\x1b"+strings.Repeat(greatest+"\xbb", 30)+greatest+"\x33", api.ErrCut)
		wantNoItems(t, 0, "\xf2"+greatest+"\x02\x01\x03", api.ErrForm)
		wantNoItems(t, 0, "\xf4"+greatest+"\x80\x80\x04", api.ErrRange)
		wantNoItems(t, 31, "\xf9"+greatest+"\x03", api.ErrDeep)
	})
	for _, n := range []uint64{math.MaxInt32 + 1, math.MaxUint32, math.MaxUint32 + 1, math.MaxInt64, math.MaxInt64 + 1, math.MaxUint64} {
		for _, kind := range kinds {
			for _, behind := range []string{"", "\x00", "\x33\x00\x00"} {
				wantNoItems(t, 0, one(0xf0|kind)+sevens(n)+behind, api.ErrRange)
			}
		}
	}
}

// 22.2: of what is wrong in a struct the first thing, as the bytes are gone through.
func TestFirstErrorOfStruct(t *testing.T) {
	for _, x := range []struct {
		s    string
		code api.Code
	}{
		{"\x14\x80\x80\x04\x0d", api.ErrRange},                                   // a number, ahead of a kind
		{"\x14\x80\x80\x04", api.ErrRange},                                       // a number, ahead of a head that lacks
		{"\x14\x80\x80\x04\x18\x05a", api.ErrRange},                              // a number, ahead of a text that is cut
		{"\x14\x80\x80\x04\x19\x11\x03", api.ErrRange},                           // a number, ahead of a truth
		{"\x14\x80\x80\x84", api.ErrCut},                                         // a number that does not end, out of range by then
		{"\x14" + strings.Repeat("\xff", 9), api.ErrCut},                         // likewise
		{"\x15\x80\x80\x80\x80\x10\x1d", api.ErrRange},                           // a number, ahead of a kind
		{"\x15\x80\x80\x80\x80\x90", api.ErrCut},                                 // a number that does not end
		{"\x0d\x14\x80\x80\x04", api.ErrKind},                                    // a kind, ahead of a number
		{"\x18\x05a\x14\x80\x80\x04", api.ErrCut},                                // a text, which has the number; no head behind
		{"\x18\x06a\x14\x80\x80\x04", api.ErrCut},                                // a text that is cut
		{"\x18\x01a\x14\x80\x80\x04", api.ErrRange},                              // a number behind a text
		{"\x19\x11\x03\x14\x80\x80\x04", api.ErrForm},                            // a truth, ahead of a number
		{"\x18\x02a\x0d", api.ErrCut},                                            // no head: the byte is the text's
		{"\x18\x01a\x0d", api.ErrKind},                                           // a head behind a field
		{"\x0d", api.ErrKind},                                                    // a kind, ahead of a number that lacks
		{"\x0d" + strings.Repeat("\xff", 10), api.ErrKind},                       // a kind, ahead of a number that is too great
		{"\x01" + strings.Repeat("\xff", 10), api.ErrRange},                      // varint's
		{"\x01\x80\x80\x04\x0d", api.ErrRange},                                   // a field's number, ahead of a kind
		{"\x1d\x01\x80\x80\x04", api.ErrKind},                                    // the other way round
		{"\x16" + strings.Repeat("\xff", 10) + "\x0d", api.ErrRange},             // a number, ahead of a head
		{"\x08\x80\x80\x04" + strings.Repeat("\xff", 10), api.ErrRange},          // a field's number, ahead of its value
		{"\x1c\x14\x80\x80\x04\x0d", api.ErrKind},                                // a number that may be within what is Raw
		{"\x1c\x14\x80\x80\x04\x00\x14\x80\x80\x04\x0d", api.ErrRange},           // and is not, ahead of a kind
		{"\x1c\x0d", api.ErrKind},                                                // within a field
		{"\x1b\x01\x1d", api.ErrKind},                                            // within a field
		{"\x18" + strings.Repeat("\xff", 10) + "\x14\x80\x80\x04", api.ErrRange}, // a length
		{"\x18" + strings.Repeat("\xff", 9) + "\x01\x0d", api.ErrCut},            // the greatest length
	} {
		wantNoStruct(t, 0, x.s, x.code)
		wantNoStruct(t, 5, "\x18\x01a\x11"+x.s, x.code)
		if x.code != api.ErrCut && !strings.HasSuffix(x.s, "\x04") {
			wantNoStruct(t, 0, x.s+"\x00", x.code)
		}
	}
	// Too deep, behind what is wrong, and ahead of it.
	wantNoStruct(t, 31, "\x1d\x1c", api.ErrKind)
	wantNoStruct(t, 31, "\x1c\x1d", api.ErrDeep)
	wantNoStruct(t, 31, "\x18\x02a", api.ErrCut)
	wantNoStruct(t, 31, "\x18\x02ab\x19", api.ErrDeep)
	wantNoStruct(t, 31, "\x14\x80\x80\x04\x1c\x00", api.ErrRange)
	wantNoStruct(t, 31, "\x1c\x00\x14\x80\x80\x04", api.ErrDeep)
	wantNoStruct(t, 31, "\x0c\x80\x80\x04\x00", api.ErrRange)
	wantNoStruct(t, 32, "\x0d", api.ErrDeep)
}

// 22.3: of what is wrong in a list the first thing, as the bytes are gone through.
func TestFirstErrorOfItems(t *testing.T) {
	for _, x := range []struct {
		s    string
		code api.Code
	}{
		{"\x21\x03", api.ErrForm},                                // the truth ahead of the one that lacks
		{"\x21\x01", api.ErrCut},                                 // no truth behind
		{"\x2d", api.ErrKind},                                    // no kind, ahead of things that lack
		{"\xfd", api.ErrKind},                                    // no kind, ahead of the count that lacks
		{"\xfd\x80\x80\x80\x80\x08", api.ErrKind},                // no kind, ahead of the count that is too great
		{"\xf4\x80\x80\x80\x80\x08", api.ErrRange},               // the count
		{"\x24\x80\x80\x04", api.ErrRange},                       // a number, ahead of the one that lacks
		{"\x24\x80\x80\x84", api.ErrCut},                         // a number that does not end
		{"\x24\x00\x80\x80\x04\x00", api.ErrRange},               // a number, ahead of more bytes
		{"\x28\x00\x02a", api.ErrCut},                            // a text
		{"\x2c\x1d\x21", api.ErrKind},                            // a field's, ahead of a second struct that is cut
		{"\x2c\x14\x80\x80\x04\x00\x1d", api.ErrKind},            // a number that may be within what is Raw
		{"\x29\x11\x03\x0d", api.ErrForm},                        // a truth of the first list, ahead of the second one's kind
		{"\x29\x0d\x11\x03", api.ErrKind},                        // the other way round
		{"\x24" + strings.Repeat("\xff", 10), api.ErrRange},      // varint's
		{"\x27\x00\x00\x00\x00\x00\x00\x00\x00\x00", api.ErrCut}, // the second double
	} {
		for _, deep := range []int{0, 30} {
			wantNoItems(t, deep, x.s, x.code)
		}
	}
	wantNoItems(t, 31, "\xf9\xff\xff\xff\xff\x0f", api.ErrRange)
	wantNoItems(t, 31, "\xfd\x01", api.ErrKind)
	wantNoItems(t, 31, "\xf9\x01", api.ErrDeep)
	wantNoItems(t, 31, "\xf9\x00\x00", api.ErrTail)
	wantNoItems(t, 32, "\x0d", api.ErrDeep)
}

// wantLast asks for the last field of a number and a kind.
func wantLast(t *testing.T, l []cread.Field, id int, kind byte, want cread.Field, is bool) {
	t.Helper()
	if f, ok := cread.Last(l, id, kind); f != want || ok != is {
		t.Errorf("Last of %+v by %d, %d: %+v, %t, want %+v, %t", l, id, kind, f, ok, want, is)
	}
}

// 22.4: the last field of a number and a kind, by numbers written out.
func TestLastWritten(t *testing.T) {
	l, _, _ := cread.Struct("\x13\x01\x13\x02\x03\x02\x03\x08\x02\x01a\x01\x06\x02\x06\x13\x04\x02\x06\x0c\x02\x11\x00\x00", 0)
	for _, x := range []struct {
		id   int
		kind byte
		want cread.Field
	}{
		{1, isByte, cread.Field{ID: 1, Kind: isByte, Num: 3}},
		{2, isByte, cread.Field{ID: 2, Kind: isByte, Num: 2}},
		{1, isText, cread.Field{ID: 1, Kind: isText, Text: "a"}},
		{1, isStruct, cread.Field{ID: 1, Kind: isStruct, Raw: "\x11\x00"}},
		{3, isTrue, cread.Field{ID: 3, Kind: isFalse}},
		{3, isFalse, cread.Field{ID: 3, Kind: isFalse}},
		{4, isByte, cread.Field{ID: 4, Kind: isByte, Num: 4}},
	} {
		wantLast(t, l, x.id, x.kind, x.want, true)
	}
	for _, x := range []struct {
		id   int
		kind byte
	}{{0, isByte}, {5, isByte}, {-1, isByte}, {2, isText}, {3, isByte}, {1, isTrue}, {1, isI16}, {4, isI16}, {1, 0}, {1, 13}, {3, 0}, {1, 255}, {math.MaxInt, isByte}, {math.MinInt, isByte}} {
		wantLast(t, l, x.id, x.kind, cread.Field{}, false)
	}
	wantLast(t, nil, 1, isByte, cread.Field{}, false)
	wantLast(t, []cread.Field{}, 0, 0, cread.Field{}, false)
}

// 22.4: either truth is found by either kind.
func TestLastTruth(t *testing.T) {
	yes, no := truth(1).as(7), truth(0).as(7)
	for _, kind := range []byte{isTrue, isFalse} {
		wantLast(t, []cread.Field{yes}, 7, kind, yes, true)
		wantLast(t, []cread.Field{no}, 7, kind, no, true)
		wantLast(t, []cread.Field{yes, no}, 7, kind, no, true)
		wantLast(t, []cread.Field{no, yes}, 7, kind, yes, true)
		wantLast(t, []cread.Field{no, yes, small(1).as(7), truth(0).as(8)}, 7, kind, yes, true)
		wantLast(t, []cread.Field{small(1).as(7), text("a").as(7)}, 7, kind, cread.Field{}, false)
	}
	for kind := byte(3); kind != 0; kind++ {
		wantLast(t, []cread.Field{no, yes}, 7, kind, cread.Field{}, false)
	}
}

// 22.4: among fields by chance, against the last one that is found from the first one on; and none is changed.
func TestLastByChance(t *testing.T) {
	chance := rand.New(rand.NewSource(220))
	for range 3000 {
		var l []cread.Field
		for range chance.Intn(20) {
			l = append(l, cread.Field{ID: chance.Intn(4) - 1, Kind: byte(chance.Intn(14)), Num: chance.Intn(100), Text: one(byte(chance.Intn(256)))})
		}
		was := slices.Clone(l)
		for id := -2; id < 4; id++ {
			for kind := range byte(15) {
				var want cread.Field
				is := false
				for _, f := range l {
					asked := f.Kind == kind
					if kind == 1 || kind == 2 {
						asked = f.Kind == 1 || f.Kind == 2
					}
					if f.ID == id && asked {
						want, is = f, true
					}
				}
				wantLast(t, l, id, kind, want, is)
			}
		}
		if !slices.Equal(l, was) {
			t.Fatalf("%+v, were %+v", l, was)
		}
	}
}

// 22.4 and R3: what lies behind the list's length is not read.
func TestLastBehindLength(t *testing.T) {
	l := []cread.Field{small(1).as(1), small(2).as(1), small(3).as(2)}
	wantLast(t, l[:1], 1, isByte, small(1).as(1), true)
	wantLast(t, l[:2], 2, isByte, cread.Field{}, false)
	wantLast(t, l[:0], 1, isByte, cread.Field{}, false)
}

// R3: each answer is a new list: who writes to one does not change another one.
func TestNewLists(t *testing.T) {
	s := "\x13\x05\x18\x01a\x19\x21\x01\x02\x00"
	first, _, _ := cread.Struct(s, 0)
	for i := range first {
		first[i] = cread.Field{ID: -1}
	}
	_ = append(first, cread.Field{})
	wantStruct(t, 0, s, small(5).as(1), text("a").as(2), holder(isList, "\x21\x01\x02").as(3))
	items, _ := cread.Items("\x21\x01\x02", 0)
	for i := range items {
		items[i] = cread.Field{ID: -1}
	}
	_ = append(items[:1], cread.Field{ID: 5})
	wantItems(t, 0, "\x21\x01\x02", truth(1).as(0), truth(2).as(1))
}

// 22.1: what is Raw may be read in its turn, one deeper, down to the innermost one.
func TestRawInTurn(t *testing.T) {
	const s = "\x19\x1c\x1a\x29\x12\x01\x21\x00\x02\x00\x00"
	l, size, code := cread.Struct(s, 27)
	if size != len(s) || code != api.OK {
		t.Fatal(l, size, code)
	}
	structs, code := cread.Items(l[0].Raw, 28)
	if len(structs) != 1 || code != api.OK {
		t.Fatal(structs, code)
	}
	inner, size, code := cread.Struct(structs[0].Raw, 29)
	if len(inner) != 1 || size != len(structs[0].Raw) || code != api.OK {
		t.Fatal(inner, size, code)
	}
	wantItems(t, 30, inner[0].Raw, holder(isList, "\x12\x01").as(0), holder(isList, "\x21\x00\x02").as(1))
	wantNoStruct(t, 28, s, api.ErrDeep)
	wantNoItems(t, 31, inner[0].Raw, api.ErrDeep)
}

// apart reads by a list of what is still to do, not by calls within calls.
type apart struct {
	s     string
	at    int
	todo  []task
	code  api.Code
	found []cread.Field
	begun int // the place where what is Raw begins
}

// task is something to go past: values of some kinds by turns, count in all; or, without kinds, fields behind a number.
type task struct {
	kinds []byte
	count *big.Int
	next  int
	deep  int
	last  int
}

// apartStruct reads a struct by the means made apart.
func apartStruct(s string, deep int) ([]cread.Field, int, api.Code) {
	a := &apart{s: s}
	if deep >= 32 {
		return nil, 0, api.ErrDeep
	}
	a.todo = []task{{deep: deep + 1}}
	a.run()
	if a.code != api.OK {
		return nil, 0, a.code
	}
	return a.found, a.at, api.OK
}

// apartItems reads a list by the means made apart.
func apartItems(s string, deep int) ([]cread.Field, api.Code) {
	a := &apart{s: s}
	if deep >= 32 {
		return nil, api.ErrDeep
	}
	a.list(deep)
	a.run()
	if a.code == api.OK && a.at < len(s) {
		a.code = api.ErrTail
	}
	if a.code != api.OK {
		return nil, a.code
	}
	return a.found, api.OK
}

// run does all that is to do.
func (a *apart) run() {
	for len(a.todo) > 0 && a.code == api.OK {
		a.step()
	}
}

// step does a part of what was added last to what is to do.
func (a *apart) step() {
	if len(a.todo) == 1 && a.begun > 0 {
		// What was begun has ended.
		a.found[len(a.found)-1].Raw, a.begun = a.s[a.begun:a.at], 0
	}
	top := &a.todo[len(a.todo)-1]
	if top.kinds == nil {
		a.field(top)
		return
	}
	if top.count.Sign() == 0 {
		a.todo = a.todo[:len(a.todo)-1]
		return
	}
	top.count.Sub(top.count, big.NewInt(1))
	kind := top.kinds[top.next]
	top.next = (top.next + 1) % len(top.kinds)
	if len(a.todo) > 1 {
		a.pass(kind, true, top.deep)
		return
	}
	if kind == isTrue || kind == isFalse {
		switch b := a.bytes(1); {
		case b > "\x02":
			a.code = api.ErrForm
		case b == "\x01":
			kind = isTrue
		default:
			kind = isFalse
		}
	}
	a.begin(len(a.found), kind, top.deep)
}

// field goes past a field's head, and begins its value.
func (a *apart) field(top *task) {
	head := a.bytes(1)
	switch {
	case head == "":
		return
	case head == "\x00":
		a.todo = a.todo[:len(a.todo)-1]
		return
	}
	digits := strconv.FormatUint(uint64(head[0])+256, 16)[1:]
	kind, _ := strconv.ParseUint(digits[1:], 16, 8)
	by, _ := strconv.ParseInt(digits[:1], 16, 8)
	if kind == 0 || kind > 12 {
		a.code = api.ErrKind
		return
	}
	id := big.NewInt(int64(top.last) + by)
	if by == 0 {
		id = unfolded(a.number())
	}
	if a.holds(id, 16); a.code != api.OK {
		return
	}
	top.last = int(id.Int64())
	if len(a.todo) > 1 {
		a.pass(byte(kind), false, top.deep)
	} else {
		a.begin(top.last, byte(kind), top.deep)
	}
}

// unfolded tells the number that was folded to another one.
func unfolded(u *big.Int) *big.Int {
	half := new(big.Int).Div(u, big.NewInt(2))
	if u.Bit(0) == 1 {
		half.Neg(half)
		half.Sub(half, big.NewInt(1))
	}
	return half
}

// holds wants a number to be one of so many bits, with its sign.
func (a *apart) holds(n *big.Int, bits uint) {
	bound := new(big.Int).Lsh(big.NewInt(1), bits-1)
	if a.code == api.OK && (n.Cmp(bound) >= 0 || n.Cmp(bound.Neg(bound)) < 0) {
		a.code = api.ErrRange
	}
}

// begin adds a value to what is found, and goes past it, or past its head.
func (a *apart) begin(id int, kind byte, deep int) {
	f := cread.Field{ID: id, Kind: kind}
	switch {
	case a.code != api.OK:
	case kind == isTrue:
		f.Num = 1
	case kind == isByte:
		if s := a.bytes(1); s != "" {
			f.Num = int(s[0]) - int(s[0]>>7)*256
		}
	case kind >= isI16 && kind <= isI64:
		n := unfolded(a.number())
		a.holds(n, 1<<kind)
		f.Num = int(n.Int64())
	case kind == isDouble:
		s := []byte(a.bytes(8))
		slices.Reverse(s)
		f.Bits = new(big.Int).SetBytes(s).Uint64()
	case kind == isText:
		f.Text = a.text()
	case kind > isText:
		// A head stands ahead of it, so that no place is 0.
		a.begun = a.at
		a.pass(kind, false, deep)
	}
	a.found = append(a.found, f)
}

// pass goes past something that has nothing within it, or past a head.
func (a *apart) pass(kind byte, within bool, deep int) {
	if deep >= 32 && kind > isText {
		a.code = api.ErrDeep
		return
	}
	switch kind {
	case isTrue, isFalse:
		if within && a.bytes(1) > "\x02" {
			a.code = api.ErrForm
		}
	case isByte:
		a.bytes(1)
	case isI16, isI32, isI64:
		a.number()
	case isDouble:
		a.bytes(8)
	case isText:
		a.text()
	case isList, isSet:
		a.list(deep)
	case isMap:
		a.entries(deep)
	case isStruct:
		a.todo = append(a.todo, task{deep: deep + 1})
	}
}

// text goes past a text, and tells it.
func (a *apart) text() string {
	n := a.number()
	if a.code == api.OK && n.Cmp(big.NewInt(int64(len(a.s)-a.at))) > 0 {
		a.code = api.ErrCut
	}
	if a.code != api.OK {
		return ""
	}
	return a.bytes(int(n.Int64()))
}

// list goes past a list's head.
func (a *apart) list(deep int) {
	head := a.bytes(1)
	if head == "" {
		return
	}
	kind := head[0] & 15
	if kind < 1 || kind > 12 {
		a.code = api.ErrKind
		return
	}
	n := big.NewInt(int64(head[0]) / 16)
	if head[0] >= 240 {
		n = a.number()
	}
	a.add(n, []byte{kind}, deep)
}

// entries goes past a map's head.
func (a *apart) entries(deep int) {
	n := a.number()
	a.counts(n)
	if a.code != api.OK || n.Sign() == 0 {
		return
	}
	head := a.bytes(1)
	if head == "" {
		return
	}
	key, val := head[0]>>4, head[0]&15
	if key < 1 || key > 12 || val < 1 || val > 12 {
		a.code = api.ErrKind
		return
	}
	a.todo = append(a.todo, task{kinds: []byte{key, val}, count: n.Mul(n, big.NewInt(2)), deep: deep + 1})
}

// counts wants a number to be a count.
func (a *apart) counts(n *big.Int) {
	if a.code == api.OK && n.Cmp(big.NewInt(2147483647)) > 0 {
		a.code = api.ErrRange
	}
}

// add adds so many values to what is to do, if there can be so many.
func (a *apart) add(n *big.Int, kinds []byte, deep int) {
	a.counts(n)
	if a.code == api.OK {
		a.todo = append(a.todo, task{kinds: kinds, count: n, deep: deep + 1})
	}
}

// bytes goes past so many bytes.
func (a *apart) bytes(n int) string {
	if a.code == api.OK && len(a.s)-a.at < n {
		a.code = api.ErrCut
	}
	if a.code != api.OK {
		return ""
	}
	a.at += n
	return a.s[a.at-n : a.at]
}

// number goes past a number, without a bound, and holds it against the bound then.
func (a *apart) number() *big.Int {
	u := new(big.Int)
	for i := uint(0); ; i++ {
		b := a.bytes(1)
		if b == "" {
			return new(big.Int)
		}
		seven := big.NewInt(int64(b[0] & 127))
		u.Or(u, seven.Lsh(seven, 7*i))
		if i == 9 && b[0] > 1 {
			a.code = api.ErrRange
			return new(big.Int)
		}
		if b[0] < 128 {
			return u
		}
	}
}

// wantAsApart holds what is read against what is so by the means made apart.
func wantAsApart(t *testing.T, deep int, s string) {
	t.Helper()
	want, end, why := apartStruct(s, deep)
	l, size, code := cread.Struct(s, deep)
	if code != why || size != end || !slices.Equal(l, want) {
		t.Errorf("Struct within %d of %q: %+v, %d, %d; apart %+v, %d, %d", deep, s, l, size, code, want, end, why)
	}
	want, why = apartItems(s, deep)
	l, code = cread.Items(s, deep)
	if code != why || !slices.Equal(l, want) {
		t.Errorf("Items within %d of %q: %+v, %d; apart %+v, %d", deep, s, l, code, want, why)
	}
}

// The means made apart answer themselves what is written out.
func TestApart(t *testing.T) {
	s := "\x13\xff\x11\x22\x04\xff\xff\x03\xff\xff\x03\x18\x01a\x19\x21\x03\x02"
	if l, size, code := apartStruct(s, 0); len(l) != 0 || size != 0 || code != api.ErrForm {
		t.Error(l, size, code)
	}
	s = "\x13\xff\x11\x22\x04\xff\xff\x03\xff\xff\x03\x18\x01a\x19\x21\x01\x02\x17\x01\x00\x00\x00\x00\x00\x00\x80\x1c\x00\x00"
	want := []cread.Field{{ID: 1, Kind: isByte, Num: -1}, {ID: 2, Kind: isTrue, Num: 1}, {ID: 4, Kind: isFalse}, {ID: -32768, Kind: isI16, Num: -32768},
		{ID: -32767, Kind: isText, Text: "a"}, {ID: -32766, Kind: isList, Raw: "\x21\x01\x02"}, {ID: -32765, Kind: isDouble, Bits: 1<<63 | 1}, {ID: -32764, Kind: isStruct, Raw: "\x00"}}
	if l, size, code := apartStruct(s+"!", 0); !slices.Equal(l, want) || size != len(s) || code != api.OK {
		t.Error(l, size, code)
	}
	if l, code := apartItems("\x31\x00\x01\x02", 0); !slices.Equal(l, []cread.Field{{Kind: isFalse}, {ID: 1, Kind: isTrue, Num: 1}, {ID: 2, Kind: isFalse}}) || code != api.OK {
		t.Error(l, code)
	}
	if l, code := apartItems("\x29\x03\x11\x01", 30); !slices.Equal(l, []cread.Field{{Kind: isList, Raw: "\x03"}, {ID: 1, Kind: isList, Raw: "\x11\x01"}}) || code != api.OK {
		t.Error(l, code)
	}
	if _, code := apartItems("\x03\x00", 0); code != api.ErrTail {
		t.Error(code)
	}
	if s := longer("\x82\x01", 4); s != "\x82\x81\x80\x00" {
		t.Errorf("%q", s)
	}
	if s := folded(-300) + folded(5) + lowFirst(258); s != "\xd7\x04\x0a\x02\x01\x00\x00\x00\x00\x00\x00" {
		t.Errorf("%q", s)
	}
	if n := []int64{lowest(16), greatest(16), lowest(64), greatest(64)}; !slices.Equal(n, []int64{-32768, 32767, math.MinInt64, math.MaxInt64}) {
		t.Error(n)
	}
	if s := list(isText, "\x01a") + entries(isText, isI64, "\x01a", "\x05") + fields(near(3, isText, "\x00"), far(-2, isByte, "x")); s != "\x18\x01a\x01\x86\x01a\x05\x38\x00\x03\x03x\x00" {
		t.Errorf("%q", s)
	}
	if kind, s := nested("lsmkr"); kind != isList || s != "\x1a\x1b\x01\x3bx\x01\xc3\x00x" {
		t.Errorf("%d %q", kind, s)
	}
}

// 22.1 to 22.3: all bytes up to two, and all behind a field's head or a list's.
func TestShort(t *testing.T) {
	for _, deep := range []int{0, 30, 31, 32} {
		wantAsApart(t, deep, "")
		for a := range 256 {
			wantAsApart(t, deep, one(byte(a)))
			for b := range 256 {
				s := one(byte(a)) + one(byte(b))
				wantAsApart(t, deep, s)
				wantAsApart(t, deep, s+"\x00")
				wantAsApart(t, deep, s+"\x01\x00")
			}
		}
	}
}

// 22.1 to 22.3: all texts of up to five bytes of a few that mean much.
func TestFew(t *testing.T) {
	few := []byte{0x00, 0x01, 0x02, 0x03, 0x08, 0x0c, 0x11, 0x12, 0x13, 0x14, 0x19, 0x1b, 0x1c, 0x21, 0x28, 0x2c, 0x9c, 0xf1, 0xfc, 0x80, 0xff}
	var all func(s string, left int)
	all = func(s string, left int) {
		wantAsApart(t, []int{0, 30, 31}[len(s)%3], s)
		if left > 0 {
			for _, b := range few {
				all(s+one(b), left-1)
			}
		}
	}
	all("", 4)
	few = few[:9]
	all("", 6)
}

// byChance tells the bytes of a value of a kind within a list or a map, with so many levels within it at most.
func byChance(chance *rand.Rand, kind byte, room int) string {
	inner := func() byte {
		if room == 0 {
			return kinds[chance.Intn(8)]
		}
		return kinds[chance.Intn(12)]
	}
	many := func() int {
		return []int{0, 1, 2, 3, 3, 14, 15, 17}[chance.Intn(8)] >> chance.Intn(4)
	}
	var things []string
	switch kind {
	case isTrue, isFalse:
		return one(byte(chance.Intn(3)))
	case isByte:
		return one(byte(chance.Intn(256)))
	case isI16, isI32, isI64:
		// Mostly in range, and sometimes not.
		s := sevens(chance.Uint64() >> (64 - 1<<kind + chance.Intn(1<<kind)))
		if chance.Intn(30) == 0 {
			s = sevens(chance.Uint64() >> chance.Intn(64))
		}
		return longer(s, len(s)+chance.Intn(11-len(s)))
	case isDouble:
		s := make([]byte, 8)
		chance.Read(s)
		return string(s)
	case isText:
		s := make([]byte, []int{0, 1, 2, 5, 130}[chance.Intn(5)])
		chance.Read(s)
		return sevens(uint64(len(s))) + string(s)
	case isList, isSet:
		of := inner()
		for range many() {
			things = append(things, byChance(chance, of, room-1))
		}
		return list(of, things...)
	case isMap:
		key, val := inner(), inner()
		for range many() {
			things = append(things, byChance(chance, key, room-1), byChance(chance, val, room-1))
		}
		return entries(key, val, things...)
	}
	for range many() {
		of := inner()
		v := byChance(chance, of, room-1)
		if of == isTrue || of == isFalse {
			v = ""
		}
		if chance.Intn(2) == 0 {
			things = append(things, near(byte(1+chance.Intn(15)), of, v))
		} else {
			things = append(things, far(chance.Intn(1<<14)-1<<13, of, v))
		}
	}
	return fields(things...)
}

// worn tells a text with some bytes changed, left out, put in, or without its end.
func worn(chance *rand.Rand, s string) string {
	l := []byte(s)
	for range 1 + chance.Intn(3) {
		at := chance.Intn(len(l) + 1)
		b := byte(chance.Intn(256))
		switch {
		case at == len(l) || chance.Intn(4) == 0:
			l = slices.Insert(l, at, b)
		case chance.Intn(4) == 0:
			l = slices.Delete(l, at, at+1)
		case chance.Intn(6) == 0:
			l = l[:at]
		default:
			l[at] = b
		}
	}
	return string(l)
}

// 22.1 to 22.3: structs and lists by chance, whole, and with bytes changed, left out, put in, or cut, the same ones each
// time.
func TestChance(t *testing.T) {
	chance := rand.New(rand.NewSource(221))
	read := 0
	for range 5000 {
		s := byChance(chance, []byte{isStruct, isList}[chance.Intn(2)], 1+chance.Intn(5))
		deep := chance.Intn(4) * chance.Intn(11)
		if _, _, code := cread.Struct(s, deep); code == api.OK {
			read++
		}
		wantAsApart(t, deep, s)
		wantAsApart(t, deep, s+"\x01\x02")
		for range 10 {
			wantAsApart(t, deep, worn(chance, s))
		}
	}
	if read < 1000 {
		t.Error(read)
	}
}

// 22.1 to 22.3: bytes of all kinds by chance, the same ones each time.
func TestNoise(t *testing.T) {
	chance := rand.New(rand.NewSource(222))
	for range 60000 {
		s := make([]byte, chance.Intn(24))
		chance.Read(s)
		if chance.Intn(2) == 0 {
			// More of what is short, and of what has things within it.
			for i := range s {
				if chance.Intn(2) == 0 {
					s[i] = "\x1c\x19\x2b\x00\x01\x02\x3c\x11\x13\x14"[chance.Intn(10)]
				}
			}
		}
		wantAsApart(t, chance.Intn(34), string(s))
	}
}
