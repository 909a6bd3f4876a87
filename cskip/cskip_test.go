package cskip_test

import (
	"math"
	"math/big"
	"math/rand"
	"slices"
	"strconv"
	"strings"
	"testing"
	"time"

	"truchman/api"
	"truchman/chead"
	"truchman/cskip"
	"truchman/cursor"
)

// deepest is how many others something that has things within it may stand within at most.
const deepest = 31

// The kinds, written out.
const (
	isTrue   = 1
	isFalse  = 2
	isByte   = 3
	isI16    = 4
	isI32    = 5
	isI64    = 6
	isDouble = 7
	isText   = 8
	isList   = 9
	isSet    = 10
	isMap    = 11
	isStruct = 12
)

// kinds are all of them.
var kinds = []byte{1, 2, 3, 4, 5, 6, 7, 8, 9, 10, 11, 12}

// holders are the kinds of what has things within it.
var holders = []byte{isList, isSet, isMap, isStruct}

// way is one of the two that go past something.
type way struct {
	name   string
	within bool
	pass   func(c *cursor.Cursor, kind byte, deep int)
}

// ways are both of them.
var ways = []way{{"Value", false, cskip.Value}, {"Inner", true, cskip.Inner}}

// noKinds are all bytes that are no kind.
func noKinds() []byte {
	var l []byte
	for b := range 256 {
		if !slices.Contains(kinds, byte(b)) {
			l = append(l, byte(b))
		}
	}
	return l
}

// one tells a text of one byte.
func one(b byte) string {
	return string([]byte{b})
}

// sevens tells a number's bytes by its digits to the base 2: cut by sevens from the right, with a digit 1 ahead of each
// but those that stand leftmost.
func sevens(u uint64) string {
	digits := strconv.FormatUint(u, 2)
	var l []byte
	for len(digits) > 0 {
		cut := max(0, len(digits)-7)
		seven, _ := strconv.ParseUint(digits[cut:], 2, 8)
		if cut > 0 {
			seven += 128
		}
		l = append(l, byte(seven))
		digits = digits[:cut]
	}
	return string(l)
}

// longer tells bytes with bits that are 0 alone at their end, count bytes in all.
func longer(s string, count int) string {
	if count == len(s) {
		return s
	}
	last := len(s) - 1
	return s[:last] + one(s[last]+128) + strings.Repeat("\x80", count-len(s)-1) + "\x00"
}

// list tells a list's bytes, or a set's, of things of a kind.
func list(kind byte, things ...string) string {
	n := len(things)
	all := strings.Join(things, "")
	if n < 15 {
		return one(byte(n)<<4|kind) + all
	}
	return one(0xf0|kind) + sevens(uint64(n)) + all
}

// entries tells a map's bytes, of keys of one kind, and values of another one, by turns.
func entries(key, val byte, things ...string) string {
	if len(things) == 0 {
		return "\x00"
	}
	return sevens(uint64(len(things)/2)) + one(key<<4|val) + strings.Join(things, "")
}

// fields tells a struct's bytes, of fields that stand one behind the other.
func fields(all ...string) string {
	return strings.Join(all, "") + "\x00"
}

// near tells a field whose number is so far above the last one, in the first form.
func near(by, kind byte, value string) string {
	return one(by<<4|kind) + value
}

// far tells a field of a number in the second form.
func far(id int, kind byte, value string) string {
	u := 2 * id
	if id < 0 {
		u = -u - 1
	}
	return one(kind) + sevens(uint64(u)) + value
}

// times tells something so many times.
func times(n int, s string) []string {
	return slices.Repeat([]string{s}, n)
}

// smallest tells the bytes of a value of a kind within a list or a map, as few as there can be.
func smallest(kind byte) string {
	switch kind {
	case isDouble:
		return "\x00\x00\x00\x00\x00\x00\x00\x00"
	case isList, isSet:
		return "\x01"
	}
	return "\x00"
}

// asField tells the bytes of a field's value, whose bytes within a list are these.
func asField(kind byte, s string) string {
	if kind == isTrue || kind == isFalse {
		return ""
	}
	return s
}

// wantPast goes past s, behind the bytes ahead and before those behind.
func wantPast(t *testing.T, w way, kind byte, deep int, ahead, s, behind string) {
	t.Helper()
	c := cursor.New(ahead + s + behind)
	c.Take(len(ahead))
	w.pass(c, kind, deep)
	if c.Err() != api.OK || c.At() != len(ahead)+len(s) || c.Left() != len(behind) {
		t.Errorf("%s %d within %d of %q between %q and %q: at %d, left %d, error %d", w.name, kind, deep, s, ahead, behind, c.At(), c.Left(), c.Err())
	}
}

// wantFail asks to go past s, where that has an error.
func wantFail(t *testing.T, w way, kind byte, deep int, s string, want api.Code) {
	t.Helper()
	for _, ahead := range []string{"", "\x00", "\x18\x01a"} {
		c := cursor.New(ahead + s)
		c.Take(len(ahead))
		w.pass(c, kind, deep)
		if c.Err() != want || c.End() != want {
			t.Errorf("%s %d within %d of %q behind %q: error %d, want %d", w.name, kind, deep, s, ahead, c.Err(), want)
		}
	}
}

// wantBoth goes past s as a value within, as a field's value, and as a field's value and a value within each holder that
// can have one; where a kind is a truth's, that has no bytes as a field's value.
func wantBoth(t *testing.T, kind byte, s string) {
	t.Helper()
	for _, behind := range []string{"", "\x00", "\x01", "\xff", "\x80\x80", "\x18\x01a\x00"} {
		for _, ahead := range []string{"", "\x80", "\x19\x00"} {
			wantPast(t, ways[0], kind, 0, ahead, asField(kind, s), behind)
			wantPast(t, ways[1], kind, 0, ahead, s, behind)
		}
	}
	for _, w := range ways {
		wantPast(t, w, isList, 0, "x", list(kind, s, s), "\x00")
		wantPast(t, w, isSet, 0, "x", list(kind, times(17, s)...), "\x00")
		wantPast(t, w, isMap, 0, "x", entries(kind, isByte, s, "\xff", s, "\xfe"), "\x00")
		wantPast(t, w, isMap, 0, "x", entries(isByte, kind, "\xff", s, "\xfe", s), "\x00")
		wantPast(t, w, isMap, 0, "x", entries(kind, kind, s, s), "\x00")
		v := asField(kind, s)
		wantPast(t, w, isStruct, 0, "x", fields(near(1, kind, v), near(15, kind, v), far(-7, kind, v)), "\x00")
	}
}

// written are things with their bytes written out: such of a field's value, and such of a value within.
var written = []struct {
	kind   byte
	value  string
	within string
}{
	{isTrue, "", "\x00"},
	{isTrue, "", "\x01"},
	{isTrue, "", "\x02"},
	{isFalse, "", "\x00"},
	{isFalse, "", "\x01"},
	{isFalse, "", "\x02"},
	{isByte, "\x00", "\x7f"},
	{isByte, "\xff", "\x80"},
	{isI16, "\x00", "\x7f"},
	{isI16, "\xac\x02", "\xff\xff\x03"},
	{isI32, "\x01", "\xff\xff\xff\xff\x0f"},
	{isI64, "\x80\x01", "\xff\xff\xff\xff\xff\xff\xff\xff\xff\x01"},
	{isI16, "\x80\x00", "\xff\xff\xff\xff\xff\xff\xff\xff\xff\x01"},
	{isDouble, "\x00\x00\x00\x00\x00\x00\xf0\x3f", "\xff\xff\xff\xff\xff\xff\xff\xff"},
	{isText, "\x00", "\x01a"},
	{isText, "\x03\x00\xff\x80", "\x82\x00ab"},
	{isList, "\x01", "\x0c"},
	{isList, "\x21\x01\x02", "\x22\x00\x01"},
	{isList, "\x28\x00\x01a", "\xf3\x01x"},
	{isList, "\xf3\x00", "\xf3\x0f0123456789abcde"},
	{isList, "\xe30123456789abcd", "\x19\x19\x03"},
	{isSet, "\x16\xac\x02", "\x17ABCDEFGH"},
	{isSet, "\x1a\x0b", "\x2b\x00\x00"},
	{isMap, "\x00", "\x80\x00"},
	{isMap, "\x01\x86\x01a\x07", "\x02\x12\x01\x02\x00\x01"},
	{isMap, "\x01\x9c\x03\x00", "\x01\xc9\x00\x03"},
	{isMap, "\x81\x00\x33ab", "\x02\xbb\x00\x00\x00\x00"},
	{isStruct, "\x00", "\x11\x00"},
	{isStruct, "\x18\x01a\x11\x00", "\x11\x12\x00"},
	{isStruct, "\x03\x00x\x06\x01\x80\x01\x00", "\x0c\xff\xff\x03\x00\x00"},
	{isStruct, "\x1c\x1c\x1c\x00\x00\x00\x00", "\x1c\x00\x1c\x00\x00"},
	{isStruct, "\x19\x0c\x1b\x00\xf7\x00\x00\x00\x00\x00\x00\x00\x00\x00", "\x01\x02\x02\x04\x00"},
}

// 21.1: things whose bytes are written out.
func TestWritten(t *testing.T) {
	for _, x := range written {
		for _, behind := range []string{"", "\x00", "\x01", "\xff\xff", "\x0d"} {
			for _, ahead := range []string{"", "\x00", "\x80"} {
				wantPast(t, ways[0], x.kind, 0, ahead, x.value, behind)
				wantPast(t, ways[1], x.kind, 0, ahead, x.within, behind)
			}
		}
		wantBoth(t, x.kind, x.within)
	}
}

// 21.1: the kinds are those of chead by their names.
func TestNames(t *testing.T) {
	wantPast(t, ways[0], chead.Struct, 0, "", "\x00", "")
	wantPast(t, ways[0], chead.List, 0, "", "\x21\x01\x02", "")
	wantPast(t, ways[0], chead.Text, 0, "", "\x02ab", "!")
	wantPast(t, ways[0], chead.True, 0, "", "", "\x01")
	wantPast(t, ways[0], chead.False, 0, "", "", "\x01")
	wantPast(t, ways[1], chead.True, 0, "", "\x01", "\x01")
	wantPast(t, ways[1], chead.False, 0, "", "\x01", "\x01")
}

// 21.1: a truth as a field's value has no bytes, whatever stands there, also where nothing does.
func TestTruthOfField(t *testing.T) {
	for _, kind := range []byte{isTrue, isFalse} {
		for _, deep := range []int{0, 1, 31, 32, 33, math.MaxInt} {
			wantPast(t, ways[0], kind, deep, "", "", "")
			for b := range 256 {
				wantPast(t, ways[0], kind, deep, "x", "", one(byte(b)))
			}
		}
		for b := range 256 {
			// What stands behind a truth's head is the next head at once.
			for _, w := range ways {
				wantPast(t, w, isStruct, 0, "", one(0x10|kind)+"\x00", one(byte(b)))
				wantPast(t, w, isStruct, 0, "", one(0x10|kind)+"\x13"+one(byte(b))+one(0x20|kind)+"\x00", one(byte(b)))
			}
		}
	}
}

// 21.1: a truth within a list or a map is one byte, 0, 1 or 2, whichever of the two kinds is told; 21.2: ErrForm above 2.
func TestTruthWithin(t *testing.T) {
	for _, kind := range []byte{isTrue, isFalse} {
		for b := range 256 {
			s := one(byte(b))
			if b <= 2 {
				wantBoth(t, kind, s)
				continue
			}
			for _, behind := range []string{"", "\x00", "\x01", "\x02"} {
				wantFail(t, ways[1], kind, 0, s+behind, api.ErrForm)
				for _, w := range ways {
					wantFail(t, w, isList, 0, list(kind, s)+behind, api.ErrForm)
					wantFail(t, w, isSet, 0, list(kind, "\x00", "\x01", "\x02", s, "\x02")+behind, api.ErrForm)
					wantFail(t, w, isList, 0, list(kind, append(times(16, "\x02"), s)...)+behind, api.ErrForm)
					wantFail(t, w, isMap, 0, entries(kind, isByte, s, "\x00")+behind, api.ErrForm)
					wantFail(t, w, isMap, 0, entries(isByte, kind, "\x00", s)+behind, api.ErrForm)
					wantFail(t, w, isMap, 0, entries(kind, kind, "\x02", "\x01", "\x00", s)+behind, api.ErrForm)
					wantFail(t, w, isStruct, 0, fields(near(1, isList, list(kind, s)))+behind, api.ErrForm)
				}
			}
		}
		wantFail(t, ways[1], kind, 0, "", api.ErrCut)
	}
}

// 21.1: a byte is any one.
func TestByte(t *testing.T) {
	for b := range 256 {
		wantBoth(t, isByte, one(byte(b)))
	}
	for _, w := range ways {
		wantFail(t, w, isByte, 0, "", api.ErrCut)
	}
}

// numbers are those around each power of two, up to the greatest there is.
func numbers() []uint64 {
	l := []uint64{0, 1, 2, 3, 300, math.MaxInt16, math.MaxUint16, math.MaxInt32, math.MaxUint32, math.MaxInt64, math.MaxUint64, 123456789012345678}
	for i := range 64 {
		l = append(l, 1<<i, 1<<i-1, 1<<i+1)
	}
	return l
}

// 21.1: numbers of one, two and more bytes, whatever their kind holds at most, with bits that are 0 alone at their end
// and without; 21.2: cut short ErrCut.
func TestNumber(t *testing.T) {
	for _, kind := range []byte{isI16, isI32, isI64} {
		for _, u := range numbers() {
			s := sevens(u)
			for count := len(s); count <= 10; count++ {
				long := longer(s, count)
				for _, w := range ways {
					wantPast(t, w, kind, 0, "\x81", long, "\x81")
					wantPast(t, w, kind, 40, "", long, "")
					for cut := range long {
						wantFail(t, w, kind, 0, long[:cut], api.ErrCut)
					}
				}
			}
			wantBoth(t, kind, s)
		}
	}
}

// tooGreat are bytes whose number, or what stands for it, varint does not take.
func tooGreat() []string {
	nine := []string{strings.Repeat("\x80", 9), strings.Repeat("\xff", 9), "\x81\x82\x83\x84\x85\x86\x87\x88\x89"}
	var l []string
	for _, s := range nine {
		for _, b := range []byte{2, 3, 127, 128, 129, 255} {
			l = append(l, s+one(b))
		}
	}
	return l
}

// 21.2: a number that varint does not take has its error, also as a text's length and in heads.
func TestNumberTooGreat(t *testing.T) {
	for _, s := range tooGreat() {
		for _, behind := range []string{"", "\x00", "\x01\x00\x00"} {
			for _, w := range ways {
				for _, kind := range []byte{isI16, isI32, isI64, isText} {
					wantFail(t, w, kind, 0, s+behind, api.ErrRange)
					wantFail(t, w, isList, 0, list(kind, s)+behind, api.ErrRange)
					wantFail(t, w, isMap, 0, entries(kind, isByte, s, "x")+behind, api.ErrRange)
					wantFail(t, w, isMap, 0, entries(isByte, kind, "x", s)+behind, api.ErrRange)
					wantFail(t, w, isStruct, 0, fields(near(1, kind, s))+behind, api.ErrRange)
				}
				for _, kind := range kinds {
					wantFail(t, w, isList, 0, one(0xf0|kind)+s+behind, api.ErrRange)
					wantFail(t, w, isSet, 0, one(0xf0|kind)+s+behind, api.ErrRange)
					wantFail(t, w, isStruct, 0, one(kind)+s+behind, api.ErrRange)
				}
				wantFail(t, w, isMap, 0, s+behind, api.ErrRange)
			}
		}
	}
}

// 21.1: a double is eight bytes, any; 21.2: ErrCut, if there are fewer.
func TestDouble(t *testing.T) {
	for _, s := range []string{"\x00\x00\x00\x00\x00\x00\x00\x00", "\xff\xff\xff\xff\xff\xff\xff\xff", "\x01\x02\x03\x04\x05\x06\x07\x08", "\x80\x80\x80\x80\x80\x80\x80\x80", "\x00\x00\x00\x00\x00\x00\xf8\x7f"} {
		wantBoth(t, isDouble, s)
		for cut := range 8 {
			for _, w := range ways {
				wantFail(t, w, isDouble, 0, s[:cut], api.ErrCut)
				wantFail(t, w, isList, 0, list(isDouble, s, s[:cut]), api.ErrCut)
			}
		}
	}
}

// 21.1: a text of each length up to 300, and some greater; 21.2: ErrCut, if fewer bytes are left than its length.
func TestText(t *testing.T) {
	lengths := []int{1000, 16383, 16384, 65536, 2097151, 2097152}
	for n := range 301 {
		lengths = append(lengths, n)
	}
	for _, n := range lengths {
		for _, fill := range []string{"\x00", "\xff", "a"} {
			s := strings.Repeat(fill, n)
			head := sevens(uint64(n))
			for _, w := range ways {
				wantPast(t, w, isText, 0, "", head+s, "")
				wantPast(t, w, isText, 50, "\x05", head+s, "\x01")
				wantPast(t, w, isText, 0, "\x05", longer(head, 10)+s, "\xff\xff")
				if n > 0 {
					wantFail(t, w, isText, 0, head+s[1:], api.ErrCut)
					wantFail(t, w, isText, 0, head, api.ErrCut)
					wantFail(t, w, isText, 0, longer(head, 9)+s[:n/2], api.ErrCut)
				}
			}
		}
	}
	wantBoth(t, isText, "\x00")
	wantBoth(t, isText, "\x01\x00")
	wantBoth(t, isText, "\x05ab\x80\xffc")
}

// 21.2: a text that is longer than the bytes that are left, by one, and far, up to what is below 0 as an int of 64 bits,
// or of 32, or is few as one of fewer bits.
func TestTextTooLong(t *testing.T) {
	for _, u := range numbers() {
		for _, left := range []int{0, 1, 2, 7, 127, 128} {
			s := sevens(u) + strings.Repeat("a", left)
			for _, w := range ways {
				if u > uint64(left) {
					wantFail(t, w, isText, 0, s, api.ErrCut)
					wantFail(t, w, isList, 0, "\x18"+s, api.ErrCut)
					wantFail(t, w, isMap, 0, "\x01\x88"+s, api.ErrCut)
					wantFail(t, w, isMap, 0, "\x01\x88\x00"+s, api.ErrCut)
					wantFail(t, w, isStruct, 0, "\x18"+s, api.ErrCut)
				} else {
					n := int(u)
					wantPast(t, w, isText, 0, "", s[:len(s)-left+n], s[len(s)-left+n:])
				}
			}
		}
	}
	for _, w := range ways {
		wantFail(t, w, isText, 0, "", api.ErrCut)
		wantFail(t, w, isText, 0, "\x80", api.ErrCut)
	}
}

// 21.1: lists and sets of none, one, up to 14 and of 15 and more things of each kind, whose count stands in the head's
// first byte, or behind it.
func TestList(t *testing.T) {
	for _, n := range []int{0, 1, 2, 3, 8, 13, 14, 15, 16, 17, 100, 127, 128, 300} {
		for _, kind := range kinds {
			things := times(n, smallest(kind))
			all := strings.Join(things, "")
			for _, holder := range []byte{isList, isSet} {
				for _, w := range ways {
					wantPast(t, w, holder, 0, "x", list(kind, things...), "\x01")
					wantPast(t, w, holder, 0, "", list(kind, things...), "")
					wantPast(t, w, holder, 0, "x", one(0xf0|kind)+sevens(uint64(n))+all, "\x01")
					wantPast(t, w, holder, 0, "x", one(0xf0|kind)+longer(sevens(uint64(n)), 10)+all, "\x01")
					if n > 0 {
						wantFail(t, w, holder, 0, strings.TrimSuffix(list(kind, things...), smallest(kind)), api.ErrCut)
					}
				}
			}
		}
	}
}

// 21.1: maps of no entries, one, and more, of each two kinds, whose keys stand ahead of their values.
func TestMap(t *testing.T) {
	for _, key := range kinds {
		for _, val := range kinds {
			for _, n := range []int{0, 1, 2, 3, 14, 15, 16, 127, 128} {
				var things []string
				for range n {
					things = append(things, smallest(key), smallest(val))
				}
				s := entries(key, val, things...)
				for _, w := range ways {
					wantPast(t, w, isMap, 0, "x", s, "\x01")
					wantPast(t, w, isMap, 0, "", s, "")
					if n > 0 {
						wantFail(t, w, isMap, 0, strings.TrimSuffix(s, smallest(val)), api.ErrCut)
						wantPast(t, w, isMap, 0, "", longer(sevens(uint64(n)), 10)+s[len(sevens(uint64(n))):], "\x02")
					}
				}
			}
		}
	}
	for _, w := range ways {
		// Without entries its head is all, and no kinds are in it.
		for b := range 256 {
			wantPast(t, w, isMap, 0, "", "\x00", one(byte(b)))
			wantPast(t, w, isMap, 0, "", "\x80\x80\x00", one(byte(b)))
		}
		// Of the two kinds the first one is the keys'.
		wantPast(t, w, isMap, 0, "", "\x01\x38a\x01b", "")
		wantPast(t, w, isMap, 0, "", "\x01\x83\x01ba", "")
		wantPast(t, w, isMap, 0, "", "\x02\x38\x02\x01a\x03\x02bc", "")
		wantPast(t, w, isMap, 0, "", "\x02\x83\x00\x02\x01a\x03", "")
	}
}

// 21.1: structs of no fields, one, and many, with heads of either form, in any order of their numbers, with a field of
// each kind.
func TestStruct(t *testing.T) {
	var all, back []string
	for _, kind := range kinds {
		v := asField(kind, smallest(kind))
		for _, w := range ways {
			for by := byte(1); by <= 15; by++ {
				wantPast(t, w, isStruct, 0, "x", fields(near(by, kind, v)), "\x00")
				wantPast(t, w, isStruct, 0, "x", fields(near(by, kind, v), near(16-by, kind, v)), "\x00")
			}
			for _, id := range []int{0, 1, -1, 16, 63, -64, 64, 300, -300, 32767, -32768} {
				wantPast(t, w, isStruct, 0, "x", fields(far(id, kind, v)), "\x00")
				wantPast(t, w, isStruct, 0, "x", fields(far(id, kind, v), far(id, kind, v), far(-1, kind, v)), "\x00")
			}
		}
		all = append(all, near(1, kind, v))
		back = append(back, far(100-int(kind), kind, v))
	}
	for _, w := range ways {
		wantPast(t, w, isStruct, 0, "", "\x00", "")
		wantPast(t, w, isStruct, 0, "", "\x00", "\x00")
		wantPast(t, w, isStruct, 0, "", fields(all...), "\x11")
		wantPast(t, w, isStruct, 0, "", fields(back...), "\x11")
		wantPast(t, w, isStruct, 0, "", fields(slices.Concat(all, back, all)...), "\x11")
		wantPast(t, w, isStruct, 0, "", fields(times(30000, "\x11")...), "\x11")
		wantPast(t, w, isStruct, 0, "", fields(times(30000, "\x03\x02a")...), "\x11")
		wantFail(t, w, isStruct, 0, "", api.ErrCut)
		wantFail(t, w, isStruct, 0, strings.Join(all, ""), api.ErrCut)
	}
}

// 21.1, 21.2: a head counts from the number of the field ahead, and the first one from 0; ErrRange where the number is
// none. Numbers within a struct do not hang on those around it.
func TestFieldNumbers(t *testing.T) {
	for _, w := range ways {
		wantPast(t, w, isStruct, 0, "", "\x01\xfc\xff\x03\x11\x00", "") // 32766, 32767
		wantFail(t, w, isStruct, 0, "\x01\xfc\xff\x03\x21\x00", api.ErrRange)
		wantFail(t, w, isStruct, 0, "\x01\xfe\xff\x03\x11\x00", api.ErrRange)
		wantFail(t, w, isStruct, 0, "\x01\x80\x80\x04\x00", api.ErrRange)
		wantFail(t, w, isStruct, 0, "\x01\x81\x80\x04\x00", api.ErrRange)
		// 15 times 2184 is 32760, so that 2184 heads may stand there, and 7 ahead or behind.
		wantPast(t, w, isStruct, 0, "", strings.Repeat("\xf1", 2184)+"\x71\x00", "")
		wantFail(t, w, isStruct, 0, strings.Repeat("\xf1", 2184)+"\x81\x00", api.ErrRange)
		wantFail(t, w, isStruct, 0, strings.Repeat("\xf1", 2185)+"\x00", api.ErrRange)
		wantPast(t, w, isStruct, 0, "", strings.Repeat("\x11", 32767)+"\x00", "")
		wantFail(t, w, isStruct, 0, strings.Repeat("\x11", 32768)+"\x00", api.ErrRange)
		wantPast(t, w, isStruct, 0, "", "\x01\xff\xff\x03"+strings.Repeat("\x11", 65535)+"\x00", "")
		wantFail(t, w, isStruct, 0, "\x01\xff\xff\x03"+strings.Repeat("\x11", 65536)+"\x00", api.ErrRange)
		wantPast(t, w, isStruct, 0, "", "\x0c\xfe\xff\x03\xf1\x00\x01\x00\x00", "")
		wantFail(t, w, isStruct, 0, "\x0c\xfe\xff\x03\x01\xfe\xff\x03\xf1\x00\x00", api.ErrRange)
		wantFail(t, w, isStruct, 0, "\x0c\xfe\xff\x03\xf1\x00\x11\x00", api.ErrRange)
		wantPast(t, w, isStruct, 0, "", "\x1c\x01\xfe\xff\x03\x00\xf1\x00", "")
	}
}

// 21.2: whatever stands there, and however deep that is, what is no kind has ErrKind.
func TestNoKind(t *testing.T) {
	for _, w := range ways {
		for _, kind := range noKinds() {
			for _, deep := range []int{0, 1, 31, 32, 33, 1000, math.MaxInt} {
				for _, s := range []string{"", "\x00", "\x01", "\x03", "\xff", "\x80", "\x18\x01a\x11\x00", "\x21\x01\x02"} {
					wantFail(t, w, kind, deep, s, api.ErrKind)
				}
			}
		}
	}
}

// 21.2: a kind that is none in a head has ErrKind: a list's, also of nothing, a map's of its keys and of its values, and
// a field's, in either form; bytes behind it do not matter.
func TestNoKindInHeads(t *testing.T) {
	for _, w := range ways {
		for _, none := range []byte{0, 13, 14, 15} {
			for _, behind := range []string{"", "\x00", "\x01\x00", "\xff\xff\xff"} {
				for n := range byte(16) {
					wantFail(t, w, isList, 0, one(n<<4|none)+behind, api.ErrKind)
					wantFail(t, w, isSet, 0, one(n<<4|none)+behind, api.ErrKind)
					if none > 0 || n > 0 {
						wantFail(t, w, isStruct, 0, one(n<<4|none)+behind, api.ErrKind)
						wantFail(t, w, isStruct, 0, "\x11\x16\x07"+one(n<<4|none)+behind, api.ErrKind)
					}
				}
				for _, kind := range append(kinds, 0, 13, 14, 15) {
					wantFail(t, w, isMap, 0, "\x01"+one(none<<4|kind)+behind, api.ErrKind)
					wantFail(t, w, isMap, 0, "\x01"+one(kind<<4|none)+behind, api.ErrKind)
					wantFail(t, w, isMap, 0, "\xff\xff\xff\xff\x07"+one(kind<<4|none)+behind, api.ErrKind)
				}
				wantFail(t, w, isList, 0, list(isList, "\x03", one(none))+behind, api.ErrKind)
				wantFail(t, w, isStruct, 0, "\x19"+one(none)+behind, api.ErrKind)
			}
		}
	}
}

// nested tells a thing of levels that stand within each other, outermost first, the innermost of which has no things
// within it; and the kind of the outermost. A letter says of which kind a level is: l, s, m (by its value), k (a map by
// its key), r (a struct).
func nested(levels string) (kind byte, s string) {
	kind, s = 0, ""
	for i := len(levels) - 1; i >= 0; i-- {
		kind, s = around(levels[i], kind, s)
	}
	return kind, s
}

// around tells a thing of one level, with another one within it, if that has a kind.
func around(level byte, kind byte, s string) (byte, string) {
	none := kind == 0
	switch level {
	case 'l', 's':
		holder := byte(isList)
		if level == 's' {
			holder = isSet
		}
		if none {
			return holder, "\x03"
		}
		return holder, list(kind, s)
	case 'm', 'k':
		switch {
		case none:
			return isMap, "\x00"
		case level == 'm':
			return isMap, entries(isByte, kind, "x", s)
		}
		return isMap, entries(kind, isByte, s, "x")
	}
	if none {
		return isStruct, "\x00"
	}
	return isStruct, fields(near(1, kind, s))
}

// chains are levels that stand within each other: of one kind, and by turns.
var chains = []string{"l", "s", "m", "k", "r", "ls", "lm", "lk", "lr", "mr", "kr", "sr", "lsmkr", "rrl", "mkl", "rkmsl"}

// levelsOf tells so many levels of a chain, from one of its places on.
func levelsOf(chain string, from, n int) string {
	return strings.Repeat(chain, n+2)[from : from+n]
}

// 21.2: within deep others so many levels may stand within each other that the innermost one stands within 31 at most; of
// one more ErrDeep.
func TestDeep(t *testing.T) {
	for _, chain := range chains {
		for from := range len(chain) {
			for deep := range 40 {
				for n := 1; n <= 40; n++ {
					kind, s := nested(levelsOf(chain, from, n))
					for _, w := range ways {
						if deep+n-1 <= deepest {
							wantPast(t, w, kind, deep, "x", s, "\x00")
						} else {
							wantFail(t, w, kind, deep, s, api.ErrDeep)
						}
					}
				}
			}
		}
	}
}

// 21.2: 32 levels are gone past, and 33 are not, by numbers written out.
func TestDeepWritten(t *testing.T) {
	for _, w := range ways {
		wantPast(t, w, isList, 0, "", strings.Repeat("\x19", 31)+"\x03", "!")
		wantFail(t, w, isList, 0, strings.Repeat("\x19", 32)+"\x03", api.ErrDeep)
		wantPast(t, w, isSet, 0, "", strings.Repeat("\x1a", 31)+"\x03", "!")
		wantFail(t, w, isSet, 0, strings.Repeat("\x1a", 32)+"\x03", api.ErrDeep)
		wantPast(t, w, isMap, 0, "", strings.Repeat("\x01\x3bx", 31)+"\x00", "!")
		wantFail(t, w, isMap, 0, strings.Repeat("\x01\x3bx", 32)+"\x00", api.ErrDeep)
		wantPast(t, w, isMap, 0, "", strings.Repeat("\x01\xb3", 31)+"\x00"+strings.Repeat("x", 31), "!")
		wantFail(t, w, isMap, 0, strings.Repeat("\x01\xb3", 32)+"\x00"+strings.Repeat("x", 32), api.ErrDeep)
		wantPast(t, w, isStruct, 0, "", strings.Repeat("\x1c", 31)+strings.Repeat("\x00", 32), "!")
		wantFail(t, w, isStruct, 0, strings.Repeat("\x1c", 32)+strings.Repeat("\x00", 33), api.ErrDeep)
		wantPast(t, w, isList, 31, "", "\x21\x01\x02", "!")
		wantFail(t, w, isList, 31, "\x19\x03", api.ErrDeep)
		wantFail(t, w, isList, 32, "\x21\x01\x02", api.ErrDeep)
	}
}

// 21.2: at the depth 31 a holder may have in it what has nothing within it, and no holder, but for none of them.
func TestDeepLast(t *testing.T) {
	for _, w := range ways {
		for _, kind := range kinds {
			s, v := smallest(kind), asField(kind, smallest(kind))
			is := slices.Contains(holders, kind)
			for _, x := range []struct {
				holder byte
				s      string
			}{
				{isList, list(kind, s, s)},
				{isSet, list(kind, s)},
				{isMap, entries(isByte, kind, "x", s)},
				{isMap, entries(kind, isByte, s, "x")},
				{isStruct, fields(near(1, kind, v))},
				{isStruct, fields("\x11", far(-1, kind, v))},
			} {
				if is {
					wantFail(t, w, x.holder, deepest, x.s, api.ErrDeep)
				} else {
					wantPast(t, w, x.holder, deepest, "x", x.s, "\x00")
				}
			}
			// A list of no lists has none within it.
			wantPast(t, w, isList, deepest, "x", one(kind), "\x00")
			wantPast(t, w, isSet, deepest, "x", one(0xf0|kind)+"\x00", "\x00")
		}
		wantPast(t, w, isMap, deepest, "x", "\x00", "\xbb")
		wantPast(t, w, isStruct, deepest, "x", "\x00", "\x00")
	}
}

// 21.2: of a list, set, map or struct that stands within 32 others or more ErrDeep, ahead of its head, whatever that is,
// and where no byte is left; of anything else the depth does not matter.
func TestDeepAhead(t *testing.T) {
	heads := []string{"", "\x00", "\x01", "\x03", "\x0d", "\x1e", "\x80", "\xff", "\x80\x80\x80\x80\x08", "\xf9\xff\xff\xff\xff\x0f", strings.Repeat("\xff", 12)}
	for _, w := range ways {
		for _, deep := range []int{32, 33, 34, 64, 1000, 1 << 31, 1 << 32, math.MaxInt - 1, math.MaxInt} {
			for _, kind := range holders {
				for _, s := range heads {
					wantFail(t, w, kind, deep, s, api.ErrDeep)
				}
			}
			for _, kind := range kinds[:8] {
				s := smallest(kind)
				if !w.within {
					s = asField(kind, s)
				}
				wantPast(t, w, kind, deep, "x", s, "\x00")
				if s != "" {
					wantFail(t, w, kind, deep, s[1:], api.ErrCut)
				}
			}
		}
		for _, kind := range holders {
			// As the 33rd in turn, where its head is none.
			for _, s := range heads {
				wantFail(t, w, isList, 0, strings.Repeat("\x19", 31)+one(0x10|kind)+s, api.ErrDeep)
				wantFail(t, w, isMap, 0, strings.Repeat("\x01\x3bx", 31)+"\x01"+one(0x30|kind)+"x"+s, api.ErrDeep)
				wantFail(t, w, isMap, 0, strings.Repeat("\x01\xb3", 31)+"\x01"+one(kind<<4|3)+s, api.ErrDeep)
				wantFail(t, w, isStruct, 0, strings.Repeat("\x1c", 31)+one(0x10|kind)+s, api.ErrDeep)
			}
		}
	}
}

// 21.2: below 0 deep leaves room for so many more.
func TestDeepBelow(t *testing.T) {
	for _, w := range ways {
		for _, chain := range chains {
			for _, deep := range []int{-1, -2, -10} {
				for n := 1; n <= 45; n++ {
					kind, s := nested(levelsOf(chain, 0, n))
					if deep+n-1 <= deepest {
						wantPast(t, w, kind, deep, "x", s, "\x00")
					} else {
						wantFail(t, w, kind, deep, s, api.ErrDeep)
					}
				}
			}
		}
		wantPast(t, w, isList, math.MinInt, "x", strings.Repeat("\x19", 1000)+"\x03", "\x00")
		wantFail(t, w, isList, math.MinInt, strings.Repeat("\x19", 1000), api.ErrCut)
	}
}

// 21.2: what is no deeper than it may be is gone past beside what is deep; the depth falls again behind each thing.
func TestDeepBeside(t *testing.T) {
	for _, chain := range chains[:5] {
		kind, s := nested(levelsOf(chain, 0, 31))
		v := asField(kind, s)
		for _, w := range ways {
			wantPast(t, w, isList, 0, "x", list(kind, times(20, s)...), "\x00")
			wantPast(t, w, isMap, 0, "x", entries(kind, kind, times(20, s)...), "\x00")
			wantPast(t, w, isStruct, 0, "x", fields(times(20, near(1, kind, v))...), "\x00")
			wantFail(t, w, isList, 1, list(kind, s), api.ErrDeep)
		}
	}
}

// quick wants something to be done soon.
func quick(t *testing.T, do func()) {
	t.Helper()
	done := make(chan bool)
	go func() {
		do()
		close(done)
	}()
	select {
	case <-done:
	case <-time.After(30 * time.Second):
		t.Fatal("it takes too long")
	}
}

// 21.2: counts far greater than the bytes that are left, up to the greatest there is, do not take long: ErrCut at the
// first byte that lacks; above the greatest one ErrRange.
func TestCountTooGreat(t *testing.T) {
	quick(t, func() {
		for _, n := range []uint64{3, 15, 16, 100, 65536, 1 << 20, 1 << 30, math.MaxInt32 - 1, math.MaxInt32} {
			for _, kind := range kinds {
				for _, have := range []int{0, 1, 2} {
					things := strings.Repeat(smallest(kind), have)
					for _, w := range ways {
						wantFail(t, w, isList, 0, one(0xf0|kind)+sevens(n)+things, api.ErrCut)
						wantFail(t, w, isSet, 0, one(0xf0|kind)+longer(sevens(n), 10)+things, api.ErrCut)
						for _, other := range kinds {
							wantFail(t, w, isMap, 0, sevens(n)+one(kind<<4|other)+strings.Repeat(smallest(kind)+smallest(other), have), api.ErrCut)
							wantFail(t, w, isMap, 0, sevens(n)+one(kind<<4|other)+smallest(kind), api.ErrCut)
						}
					}
				}
			}
		}
		for _, w := range ways {
			deep := strings.Repeat("\xf9\xff\xff\xff\xff\x07", 31) + "\xf3\xff\xff\xff\xff\x07"
			wantFail(t, w, isList, 0, deep, api.ErrCut)
			wantFail(t, w, isMap, 0, strings.Repeat("\xff\xff\xff\xff\x07\xbb", 31)+"\xff\xff\xff\xff\x07\x33", api.ErrCut)
			wantFail(t, w, isList, 0, "\xf2\xff\xff\xff\xff\x07\x02\x01\x03", api.ErrForm)
			wantFail(t, w, isList, 31, "\xf9\xff\xff\xff\xff\x07\x03", api.ErrDeep)
		}
	})
	for _, n := range []uint64{math.MaxInt32 + 1, math.MaxUint32, math.MaxUint32 + 1, math.MaxInt64, math.MaxInt64 + 1, math.MaxUint64} {
		for _, kind := range kinds {
			for _, behind := range []string{"", "\x00", "\x33\x00\x00"} {
				for _, w := range ways {
					wantFail(t, w, isList, 0, one(0xf0|kind)+sevens(n)+behind, api.ErrRange)
					wantFail(t, w, isSet, 0, one(0xf0|kind)+sevens(n)+behind, api.ErrRange)
					wantFail(t, w, isMap, 0, sevens(n)+behind, api.ErrRange)
				}
			}
		}
	}
}

// 21.2: of what is wrong the first thing, as the bytes are gone through.
func TestFirstError(t *testing.T) {
	for _, x := range []struct {
		kind byte
		s    string
		code api.Code
	}{
		{isList, "\x21\x03", api.ErrForm},                                      // the truth ahead of the one that lacks
		{isList, "\x21\x01", api.ErrCut},                                       // no truth behind
		{isList, "\x2d", api.ErrKind},                                          // no kind, ahead of things that lack
		{isList, "\xfd", api.ErrKind},                                          // no kind, ahead of the count that lacks
		{isList, "\xfd\x80\x80\x80\x80\x08", api.ErrKind},                      // no kind, ahead of the count that is too great
		{isList, "\x2c\x1d\x21", api.ErrKind},                                  // a field's, ahead of a second struct that is cut
		{isList, "\x2c\x11\x21", api.ErrCut},                                   // a struct that is cut
		{isList, "\x29\x11\x03\x0d", api.ErrForm},                              // a truth of the first list, ahead of the second one's kind
		{isList, "\x29\x0d\x11\x03", api.ErrKind},                              // the other way round
		{isMap, "\x01\xd1", api.ErrKind},                                       // a key's kind
		{isMap, "\x01\x1d", api.ErrKind},                                       // a value's kind
		{isMap, "\x01", api.ErrCut},                                            // kinds lack
		{isMap, "\x80\x80\x80\x80\x08", api.ErrRange},                          // a count, ahead of kinds that lack
		{isMap, "\x80\x80\x80\x80\x08\xdd", api.ErrRange},                      // a count, ahead of kinds that are none
		{isMap, "\x01\x16\x03" + "\xff", api.ErrForm},                          // a key, ahead of its value
		{isMap, "\x01\x61\xff\x03", api.ErrCut},                                // a key's number goes on, and takes the value's byte
		{isMap, "\x02\x11\x00\x03\x04", api.ErrForm},                           // a value, ahead of the next key
		{isMap, "\x02\x81\x01a\x03\xff", api.ErrForm},                          // a value, ahead of a text
		{isMap, "\x02\x18\x02\x05a", api.ErrCut},                               // a text, ahead of the next key, which lacks
		{isStruct, "\x18\x02a\x0d", api.ErrCut},                                // no head: the byte is the text's
		{isStruct, "\x18\x01a\x0d", api.ErrKind},                               // a head behind a field
		{isStruct, "\x18\x05a\x0d", api.ErrCut},                                // a text, ahead of a head
		{isStruct, "\x0d", api.ErrKind},                                        // a kind, ahead of a number that lacks
		{isStruct, "\x0d" + strings.Repeat("\xff", 10), api.ErrKind},           // a kind, ahead of a number that is too great
		{isStruct, "\x01" + strings.Repeat("\xff", 10), api.ErrRange},          // varint's
		{isStruct, "\x01" + strings.Repeat("\xff", 9), api.ErrCut},             // varint's
		{isStruct, "\x01\x80\x80\x04\x0d", api.ErrRange},                       // a number that is none, ahead of a kind
		{isStruct, "\x1d\x01\x80\x80\x04", api.ErrKind},                        // the other way round
		{isStruct, "\x19\x21\x03\x0d", api.ErrForm},                            // a truth, ahead of a head
		{isStruct, "\x16" + strings.Repeat("\xff", 10) + "\x0d", api.ErrRange}, // a number, ahead of a head
		{isText, strings.Repeat("\xff", 10), api.ErrRange},                     // a length that is none
		{isText, strings.Repeat("\xff", 9) + "\x01", api.ErrCut},               // the greatest length
		{isI64, strings.Repeat("\xff", 9), api.ErrCut},                         // cut ahead of the tenth byte
	} {
		for _, w := range ways {
			wantFail(t, w, x.kind, 0, x.s, x.code)
			// Within another one, and behind what is right.
			wantFail(t, w, isStruct, 0, "\x18\x01a"+one(0x10|x.kind)+x.s, x.code)
			wantFail(t, w, isList, 0, one(0x10|x.kind)+x.s, x.code)
		}
	}
	for _, w := range ways {
		// Too deep, behind what is wrong, and ahead of it.
		wantFail(t, w, isStruct, 31, "\x1d\x1c", api.ErrKind)
		wantFail(t, w, isStruct, 31, "\x1c\x1d", api.ErrDeep)
		wantFail(t, w, isStruct, 31, "\x18\x02a", api.ErrCut)
		wantFail(t, w, isStruct, 31, "\x18\x02ab\x19", api.ErrDeep)
		wantFail(t, w, isMap, 31, "\x01\x19\x03", api.ErrForm)
		wantFail(t, w, isMap, 31, "\x01\x19\x02", api.ErrDeep)
		wantFail(t, w, isMap, 31, "\x01\x19", api.ErrCut)
		wantFail(t, w, isMap, 31, "\x01\x91\x03", api.ErrDeep)
		wantFail(t, w, isList, 31, "\xf9\xff\xff\xff\xff\x0f", api.ErrRange)
		wantFail(t, w, isList, 31, "\xf9\x01", api.ErrDeep)
	}
}

// rich are things with much in them, of each holder.
func rich() []thing {
	chance := rand.New(rand.NewSource(21))
	var l []thing
	for len(l) < 60 {
		kind := kinds[chance.Intn(12)]
		s := byChance(chance, kind, chance.Intn(4))
		if len(s) < 400 {
			l = append(l, thing{kind, s})
		}
	}
	for _, x := range written {
		l = append(l, thing{x.kind, x.within})
	}
	return l
}

// thing is a kind, and the bytes of a value of it within a list or a map.
type thing struct {
	kind byte
	s    string
}

// byChance tells the bytes of a value of a kind within a list or a map, with so many levels within it at most.
func byChance(chance *rand.Rand, kind byte, room int) string {
	inner := func() byte {
		if room == 0 {
			return kinds[chance.Intn(8)]
		}
		return kinds[chance.Intn(12)]
	}
	many := func() int {
		return []int{0, 1, 2, 3, 3, 14, 15, 17}[chance.Intn(8)] >> chance.Intn(4)
	}
	var things []string
	switch kind {
	case isTrue, isFalse:
		return one(byte(chance.Intn(3)))
	case isByte:
		return one(byte(chance.Intn(256)))
	case isI16, isI32, isI64:
		s := sevens(chance.Uint64() >> chance.Intn(64))
		return longer(s, len(s)+chance.Intn(11-len(s)))
	case isDouble:
		s := make([]byte, 8)
		chance.Read(s)
		return string(s)
	case isText:
		s := make([]byte, []int{0, 1, 2, 5, 130}[chance.Intn(5)])
		chance.Read(s)
		return sevens(uint64(len(s))) + string(s)
	case isList, isSet:
		of := inner()
		for range many() {
			things = append(things, byChance(chance, of, room-1))
		}
		return list(of, things...)
	case isMap:
		key, val := inner(), inner()
		for range many() {
			things = append(things, byChance(chance, key, room-1), byChance(chance, val, room-1))
		}
		return entries(key, val, things...)
	}
	for range many() {
		of := inner()
		v := asField(of, byChance(chance, of, room-1))
		if chance.Intn(2) == 0 {
			things = append(things, near(byte(1+chance.Intn(15)), of, v))
		} else {
			things = append(things, far(chance.Intn(1<<14)-1<<13, of, v))
		}
	}
	return fields(things...)
}

// 21.1: each thing may stand within each other one.
func TestWithinEachOther(t *testing.T) {
	for _, x := range rich() {
		wantBoth(t, x.kind, x.s)
	}
}

// 21.2: a thing that is cut short at any of its bytes has ErrCut.
func TestCut(t *testing.T) {
	for _, x := range rich() {
		for cut := range x.s {
			wantFail(t, ways[1], x.kind, 0, x.s[:cut], api.ErrCut)
			if x.kind > isFalse {
				wantFail(t, ways[0], x.kind, 0, x.s[:cut], api.ErrCut)
			}
		}
		whole := list(x.kind, x.s, x.s)
		for cut := range whole {
			for _, w := range ways {
				wantFail(t, w, isList, 0, whole[:cut], api.ErrCut)
			}
		}
	}
}

// 21.2: things are gone past one behind the other, and what is gone past is so again, alone, and with others behind.
func TestOnAndOn(t *testing.T) {
	chance := rand.New(rand.NewSource(22))
	for range 200 {
		var all []thing
		var ends []int
		var whole string
		w := ways[chance.Intn(2)]
		for range chance.Intn(30) {
			kind := kinds[chance.Intn(12)]
			s := byChance(chance, kind, chance.Intn(4))
			if !w.within {
				s = asField(kind, s)
			}
			whole += s
			all, ends = append(all, thing{kind, s}), append(ends, len(whole))
		}
		c := cursor.New(whole)
		from := 0
		for i, x := range all {
			w.pass(c, x.kind, 0)
			if c.Err() != api.OK || c.At() != ends[i] {
				t.Fatalf("%s %d of %q: at %d, error %d", w.name, x.kind, x.s, c.At(), c.Err())
			}
			past := whole[from:c.At()]
			wantPast(t, w, x.kind, 0, "", past, "")
			wantPast(t, w, x.kind, 0, whole[:from], past, "\xff\x00")
			from = c.At()
		}
		if c.End() != api.OK {
			t.Errorf("end %d", c.End())
		}
	}
}

// 21.2: in a part of a cursor a thing is gone past as in all of it; bytes beyond the part lack, even if the text has
// them.
func TestWithinBounds(t *testing.T) {
	for _, x := range rich() {
		for _, w := range ways {
			s := x.s
			if !w.within {
				s = asField(x.kind, s)
			}
			c := cursor.New("a" + s + s + "\x00\x00z")
			c.Byte()
			just := c.Sub(len(s))
			w.pass(just, x.kind, 0)
			if just.End() != api.OK || just.At() != 1+len(s) {
				t.Errorf("%q in a part: end %d, at %d", s, just.End(), just.At())
			}
			if s == "" {
				continue
			}
			few := c.Sub(len(s) - 1)
			w.pass(few, x.kind, 0)
			if few.Err() != api.ErrCut {
				t.Errorf("%q, a byte too few: error %d", s, few.Err())
			}
			if c.Err() != api.OK || c.At() != 2*len(s) || c.Left() != 4 {
				t.Errorf("the cursor around these: error %d, at %d, left %d", c.Err(), c.At(), c.Left())
			}
		}
	}
	c := cursor.New("\x03abcd")
	part := c.Sub(3)
	cskip.Value(part, chead.Text, 0)
	if part.Err() != api.ErrCut {
		t.Errorf("a text beyond its part: error %d", part.Err())
	}
}

// 21.2: a cursor that has an error keeps it, whatever stands there, and stands where it stood.
func TestOfFailed(t *testing.T) {
	for _, w := range ways {
		for _, code := range []api.Code{api.ErrCut, api.ErrTail, api.ErrForm, api.ErrRange, api.ErrKind, api.ErrNone, api.ErrDeep, api.ErrWeight, -1} {
			for _, s := range []string{"", "\x00", "\x01", "\x03", "\x0d", "\x19\x03", "\x01\x33ab", "\xff", "\x05abc"} {
				for kind := range 256 {
					for _, deep := range []int{0, 31, 32} {
						c := cursor.New(s)
						c.Fail(code)
						w.pass(c, byte(kind), deep)
						if c.Err() != code || c.At() != 0 || c.Left() != len(s) {
							t.Errorf("%s %d of %q with error %d: error %d, at %d", w.name, kind, s, code, c.Err(), c.At())
						}
					}
				}
			}
		}
	}
}

// 21.2: behind what could not be gone past nothing is, and the first error stays.
func TestBehindError(t *testing.T) {
	for _, x := range []struct {
		kind byte
		deep int
		s    string
		code api.Code
	}{
		{isList, 0, "\x11\x03\x00", api.ErrForm},
		{isList, 0, "\x0d\x00", api.ErrKind},
		{isText, 0, "\x05abc", api.ErrCut},
		{isMap, 0, "\x80\x80\x80\x80\x08\x00", api.ErrRange},
		{isStruct, 32, "\x00\x00\x00", api.ErrDeep},
		{13, 0, "\x00\x00\x00", api.ErrKind},
	} {
		for _, first := range ways {
			c := cursor.New(x.s)
			first.pass(c, x.kind, x.deep)
			at := c.At()
			for _, w := range ways {
				for kind := range 256 {
					w.pass(c, byte(kind), 0)
				}
			}
			if c.Err() != x.code || c.At() != at {
				t.Errorf("behind %q: error %d, want %d, at %d, was %d", x.s, c.Err(), x.code, c.At(), at)
			}
		}
	}
}

// 21.2 and R6: of a cursor that is nil nothing is gone past, without a panic, and soon.
func TestOfNil(t *testing.T) {
	quick(t, func() {
		for _, w := range ways {
			for kind := range 256 {
				for _, deep := range []int{math.MinInt, -1, 0, 31, 32, math.MaxInt} {
					w.pass(nil, byte(kind), deep)
				}
			}
		}
	})
}

// apart goes past things by a list of what is still to do, not by calls within calls, and tells where it stands then.
type apart struct {
	s    string
	at   int
	todo []task
	code api.Code
}

// task is something to go past: values of some kinds by turns, count in all; or, without kinds, fields behind a number.
type task struct {
	kinds  []byte
	count  *big.Int
	next   int
	within bool
	deep   int
	last   int
}

// goneBy tells where a thing ends, or what is wrong with it.
func goneBy(s string, kind byte, within bool, deep int) (int, api.Code) {
	a := &apart{s: s}
	a.todo = []task{{kinds: []byte{kind}, count: big.NewInt(1), within: within, deep: deep}}
	for len(a.todo) > 0 && a.code == api.OK {
		a.step()
	}
	return a.at, a.code
}

// step does a part of what was added last to what is to do.
func (a *apart) step() {
	top := &a.todo[len(a.todo)-1]
	if top.kinds == nil {
		a.field(top)
		return
	}
	if top.count.Sign() == 0 {
		a.todo = a.todo[:len(a.todo)-1]
		return
	}
	top.count.Sub(top.count, big.NewInt(1))
	kind := top.kinds[top.next]
	top.next = (top.next + 1) % len(top.kinds)
	a.begin(kind, top.within, top.deep)
}

// field goes past a field's head, and adds its value to what is to do.
func (a *apart) field(top *task) {
	head := a.bytes(1)
	switch {
	case head == "":
		return
	case head == "\x00":
		a.todo = a.todo[:len(a.todo)-1]
		return
	}
	digits := strconv.FormatUint(uint64(head[0])+256, 16)[1:]
	kind, _ := strconv.ParseUint(digits[1:], 16, 8)
	by, _ := strconv.ParseInt(digits[:1], 16, 8)
	if kind == 0 || kind > 12 {
		a.code = api.ErrKind
		return
	}
	id := new(big.Int)
	if by > 0 {
		id.SetInt64(int64(top.last) + by)
	} else {
		u := a.number()
		half := new(big.Int).Div(u, big.NewInt(2))
		if u.Bit(0) == 1 {
			half.Neg(half)
			half.Sub(half, big.NewInt(1))
		}
		id = half
	}
	if a.code == api.OK && (id.Cmp(big.NewInt(-32768)) < 0 || id.Cmp(big.NewInt(32767)) > 0) {
		a.code = api.ErrRange
	}
	if a.code == api.OK {
		top.last = int(id.Int64())
		a.begin(byte(kind), false, top.deep)
	}
}

// begin goes past something that has nothing within it, or past a head.
func (a *apart) begin(kind byte, within bool, deep int) {
	name := ""
	if kind < 13 {
		name = strings.Fields("- truth truth byte number number number double text list list map struct")[kind]
	}
	if deep >= 32 && (name == "list" || name == "map" || name == "struct") {
		a.code = api.ErrDeep
		return
	}
	switch name {
	case "truth":
		if within && a.bytes(1) > "\x02" {
			a.code = api.ErrForm
		}
	case "byte":
		a.bytes(1)
	case "number":
		a.number()
	case "double":
		a.bytes(8)
	case "text":
		if n := a.number(); n.Cmp(big.NewInt(int64(len(a.s)-a.at))) > 0 {
			a.code = api.ErrCut
		} else {
			a.bytes(int(n.Int64()))
		}
	case "list":
		a.list(deep)
	case "map":
		a.entries(deep)
	case "struct":
		a.todo = append(a.todo, task{deep: deep + 1})
	default:
		a.code = api.ErrKind
	}
}

// list goes past a list's head.
func (a *apart) list(deep int) {
	head := a.bytes(1)
	if head == "" {
		return
	}
	kind := head[0] & 15
	if kind < 1 || kind > 12 {
		a.code = api.ErrKind
		return
	}
	n := big.NewInt(int64(head[0]) / 16)
	if head[0] >= 240 {
		n = a.number()
	}
	a.add(n, []byte{kind}, deep)
}

// entries goes past a map's head.
func (a *apart) entries(deep int) {
	n := a.number()
	if a.code != api.OK || n.Sign() == 0 {
		return
	}
	if n.Cmp(big.NewInt(2147483647)) > 0 {
		a.code = api.ErrRange
		return
	}
	head := a.bytes(1)
	if head == "" {
		return
	}
	key, val := head[0]>>4, head[0]&15
	if key < 1 || key > 12 || val < 1 || val > 12 {
		a.code = api.ErrKind
		return
	}
	n.Mul(n, big.NewInt(2))
	a.todo = append(a.todo, task{kinds: []byte{key, val}, count: n, within: true, deep: deep + 1})
}

// add adds so many values to what is to do, if there can be so many.
func (a *apart) add(n *big.Int, kinds []byte, deep int) {
	if a.code == api.OK && n.Cmp(big.NewInt(2147483647)) > 0 {
		a.code = api.ErrRange
	}
	if a.code == api.OK {
		a.todo = append(a.todo, task{kinds: kinds, count: n, within: true, deep: deep + 1})
	}
}

// bytes goes past so many bytes.
func (a *apart) bytes(n int) string {
	if a.code == api.OK && len(a.s)-a.at < n {
		a.code = api.ErrCut
	}
	if a.code != api.OK {
		return ""
	}
	a.at += n
	return a.s[a.at-n : a.at]
}

// number goes past a number, without a bound, and holds it against the bound then.
func (a *apart) number() *big.Int {
	u := new(big.Int)
	for i := uint(0); ; i++ {
		b := a.bytes(1)
		if b == "" {
			return new(big.Int)
		}
		seven := big.NewInt(int64(b[0] & 127))
		u.Or(u, seven.Lsh(seven, 7*i))
		if i == 9 && b[0] > 1 {
			a.code = api.ErrRange
			return new(big.Int)
		}
		if b[0] < 128 {
			return u
		}
	}
}

// wantAsApart holds what is gone past against what is so by the means made apart.
func wantAsApart(t *testing.T, w way, kind byte, deep int, s string) {
	t.Helper()
	end, code := goneBy(s, kind, w.within, deep)
	c := cursor.New(s)
	w.pass(c, kind, deep)
	if c.Err() != code || code == api.OK && (c.At() != end || c.Left() != len(s)-end) {
		t.Errorf("%s %d within %d of %q: at %d, error %d; apart %d, error %d", w.name, kind, deep, s, c.At(), c.Err(), end, code)
	}
}

// The means made apart answer themselves what is written out.
func TestApart(t *testing.T) {
	for _, x := range written {
		for i, s := range []string{x.value, x.within} {
			if end, code := goneBy(s+"\x01", x.kind, i == 1, 0); end != len(s) || code != api.OK {
				t.Errorf("%d of %q: %d, error %d", x.kind, s, end, code)
			}
		}
	}
	if _, code := goneBy("\x21\x01\x03", isList, false, 0); code != api.ErrForm {
		t.Error(code)
	}
	if s := longer("\x82\x01", 4); s != "\x82\x81\x80\x00" {
		t.Errorf("%q", s)
	}
	if s := list(isText, "\x01a") + entries(isText, isI64, "\x01a", "\x05") + fields(near(3, isText, "\x00"), far(-2, isByte, "x")); s != "\x18\x01a\x01\x86\x01a\x05\x38\x00\x03\x03x\x00" {
		t.Errorf("%q", s)
	}
	if kind, s := nested("lsmkr"); kind != isList || s != "\x1a\x1b\x01\x3bx\x01\xc3\x00x" {
		t.Errorf("%d %q", kind, s)
	}
}

// 21.1, 21.2: all bytes up to two, of each kind and of some that are none.
func TestShort(t *testing.T) {
	for _, w := range ways {
		for kind := range byte(15) {
			for _, deep := range []int{0, 30, 31, 32} {
				wantAsApart(t, w, kind, deep, "")
				for a := range 256 {
					wantAsApart(t, w, kind, deep, one(byte(a)))
					if deep == 30 {
						continue
					}
					for b := range 256 {
						wantAsApart(t, w, kind, deep, one(byte(a))+one(byte(b)))
					}
				}
			}
		}
	}
}

// 21.1, 21.2: all texts of up to five bytes of a few that mean much, of each kind that has things within it.
func TestFew(t *testing.T) {
	few := []byte{0x00, 0x01, 0x02, 0x03, 0x08, 0x0c, 0x11, 0x12, 0x19, 0x1b, 0x1c, 0x21, 0x28, 0x2c, 0x3d, 0x9c, 0xbb, 0xf1, 0xfc, 0x80, 0xff}
	var all func(s string, left int)
	all = func(s string, left int) {
		for _, kind := range holders {
			wantAsApart(t, ways[len(s)%2], kind, 0, s)
			wantAsApart(t, ways[1-len(s)%2], kind, 31, s)
		}
		if left > 0 {
			for _, b := range few {
				all(s+one(b), left-1)
			}
		}
	}
	all("", 4)
}

// 21.1, 21.2: things by chance, whole, and with bytes changed, left out, put in, or cut, the same ones each time.
func TestChance(t *testing.T) {
	chance := rand.New(rand.NewSource(23))
	for range 6000 {
		kind := kinds[chance.Intn(12)]
		s := byChance(chance, kind, chance.Intn(5))
		w := ways[chance.Intn(2)]
		if !w.within {
			s = asField(kind, s)
		}
		deep := chance.Intn(4) * chance.Intn(11)
		wantAsApart(t, w, kind, deep, s)
		wantAsApart(t, w, kind, deep, s+"\x01\x02")
		for range 10 {
			wantAsApart(t, w, kind, deep, worn(chance, s))
		}
	}
}

// worn tells a text with some bytes changed, left out, put in, or without its end.
func worn(chance *rand.Rand, s string) string {
	l := []byte(s)
	for range 1 + chance.Intn(3) {
		at := chance.Intn(len(l) + 1)
		b := byte(chance.Intn(256))
		switch {
		case at == len(l) || chance.Intn(4) == 0:
			l = slices.Insert(l, at, b)
		case chance.Intn(4) == 0:
			l = slices.Delete(l, at, at+1)
		case chance.Intn(6) == 0:
			l = l[:at]
		default:
			l[at] = b
		}
	}
	return string(l)
}

// 21.1, 21.2: bytes of all kinds by chance, the same ones each time.
func TestNoise(t *testing.T) {
	chance := rand.New(rand.NewSource(24))
	for range 60000 {
		s := make([]byte, chance.Intn(24))
		chance.Read(s)
		if chance.Intn(2) == 0 {
			// More of what has things within it.
			for i := range s {
				if chance.Intn(2) == 0 {
					s[i] = "\x1c\x19\x2b\x00\x01\x02\x3c\x11"[chance.Intn(8)]
				}
			}
		}
		wantAsApart(t, ways[chance.Intn(2)], byte(chance.Intn(14)), chance.Intn(34), string(s))
	}
}
