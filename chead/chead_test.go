package chead_test

import (
	"bytes"
	"fmt"
	"math"
	"math/big"
	"math/rand"
	"slices"
	"strconv"
	"strings"
	"testing"

	"truchman/api"
	"truchman/chead"
	"truchman/cursor"
)

// The bounds of a field's number, and the greatest count.
const (
	least = -32768
	most  = 32767
	many  = 2147483647
)

// told is what a head tells: a field's number and its kind, how many things a list has and their kind, or how many
// entries a map has and the kinds of their keys and values.
type told struct {
	n        int
	key, val byte
}

// reader reads a head by a cursor.
type reader func(c *cursor.Cursor) told

// fieldBehind reads a field's head behind the field of a number.
func fieldBehind(last int) reader {
	return func(c *cursor.Cursor) told {
		id, kind := chead.Field(c, last)
		return told{n: id, val: kind}
	}
}

// list reads a list's head.
func list(c *cursor.Cursor) told {
	n, kind := chead.ListHead(c)
	return told{n: n, val: kind}
}

// entries reads a map's head.
func entries(c *cursor.Cursor) told {
	n, key, val := chead.MapHead(c)
	return told{n, key, val}
}

// readers are those of each kind of head, that of a field behind several numbers.
func readers() []reader {
	l := []reader{list, entries}
	for _, last := range lasts() {
		l = append(l, fieldBehind(last))
	}
	return l
}

// lasts are numbers of fields behind which another one stands: the lowest, the greatest, 0, and others between them.
func lasts() []int {
	return []int{0, least, most, 1, -1, 15, -15, 16, -16, 100, -100, 32767 - 15, 32767 - 16, 32766, -32767, -32753, -32752, 12345, -23456}
}

// noLasts are numbers that no field has.
func noLasts() []int {
	return []int{
		least - 1, least - 2, least - 14, least - 15, least - 16, least - 17, -65536, -65535, -65537, math.MinInt32, math.MinInt32 - 1, math.MinInt64, math.MinInt64 + 1,
		most + 1, most + 2, most + 16, 65535, 65536, 65537, math.MaxInt32, math.MaxUint32, math.MaxInt64, math.MaxInt64 - 1, math.MaxInt64 - 14, math.MaxInt64 - 15,
	}
}

// kinds are the twelve kinds of things, written out.
var kinds = []byte{1, 2, 3, 4, 5, 6, 7, 8, 9, 10, 11, 12}

// noKinds are all other bytes.
func noKinds() []byte {
	var l []byte
	for b := range 256 {
		if !slices.Contains(kinds, byte(b)) {
			l = append(l, byte(b))
		}
	}
	return l
}

// noCounts are no counts, among them such that go round to one in fewer bits.
func noCounts() []int {
	l := []int{-1, -2, -14, -15, -16, -128, many + 1, many + 2, math.MaxUint32, math.MaxInt64, math.MaxInt64 - 1, math.MinInt64, math.MinInt64 + 1}
	for i := 8; i < 63; i++ {
		l = append(l, -1<<i, -1<<i+1, -1<<i+15, -1<<i-1)
		if i > 31 {
			l = append(l, 1<<i, 1<<i+1, 1<<i+14, 1<<i+15, 1<<i-1)
		}
	}
	return l
}

// counts are those from 0 on, those around each power of two, and the greatest one.
func counts() []int {
	l := []int{many, many - 1, many - 15, 1000, 10000, 123456789, 1431655765, 715827882}
	for n := range 200 {
		l = append(l, n)
	}
	for i := 1; i < 31; i++ {
		l = append(l, 1<<i-1, 1<<i, 1<<i+1)
	}
	slices.Sort(l)
	return slices.Compact(l)
}

// sevens tells a number's bytes by its digits to the base 2: cut by sevens from the right, with a digit 1 ahead of each
// but those that stand leftmost.
func sevens(u *big.Int) string {
	digits := u.Text(2)
	var l []byte
	for len(digits) > 0 {
		cut := max(0, len(digits)-7)
		seven, _ := strconv.ParseUint(digits[cut:], 2, 8)
		if cut > 0 {
			seven += 128
		}
		l = append(l, byte(seven))
		digits = digits[:cut]
	}
	return string(l)
}

// sevensOf tells the bytes of a number of 64 bits.
func sevensOf(u uint64) string {
	return sevens(new(big.Int).SetUint64(u))
}

// longer tells bytes with bits that are 0 alone at their end, count bytes in all.
func longer(s string, count int) string {
	if count == len(s) {
		return s
	}
	last := len(s) - 1
	return s[:last] + string([]byte{s[last] + 128}) + strings.Repeat("\x80", count-len(s)-1) + "\x00"
}

// one tells a text of one byte.
func one(b byte) string {
	return string([]byte{b})
}

// hexed tells the byte of two digits to the base 16.
func hexed(high int, low byte) string {
	u, err := strconv.ParseUint(fmt.Sprintf("%x%x", high, low), 16, 8)
	if err != nil {
		panic(err)
	}
	return one(byte(u))
}

// folded tells a number folded, without a bound: twice it, or twice what it is below 0, less 1.
func folded(n int) *big.Int {
	u := big.NewInt(int64(n))
	u.Mul(u, big.NewInt(2))
	if n < 0 {
		u.Neg(u)
		u.Sub(u, big.NewInt(1))
	}
	return u
}

// far tells the second form of a field's head, which does not hang on the number ahead.
func far(id int, kind byte) string {
	return one(kind) + sevens(folded(id))
}

// above tells how far a field's number is above another one, without a bound.
func above(last, id int) *big.Int {
	return new(big.Int).Sub(big.NewInt(int64(id)), big.NewInt(int64(last)))
}

// isFirst tells whether a field's head has the first form.
func isFirst(last, id int) bool {
	by := above(last, id)
	return last >= least && by.Sign() > 0 && by.Cmp(big.NewInt(15)) <= 0
}

// fieldOf tells the bytes of a field's head, or none, if there is no such head.
func fieldOf(last, id int, kind byte) string {
	switch {
	case id < least || id > most || !slices.Contains(kinds, kind):
		return ""
	case isFirst(last, id):
		return hexed(int(above(last, id).Int64()), kind)
	}
	return far(id, kind)
}

// listOf tells the bytes of a list's head, or none, if there is no such head.
func listOf(n int, kind byte) string {
	switch {
	case n < 0 || n > many || !slices.Contains(kinds, kind):
		return ""
	case n < 15:
		return hexed(n, kind)
	}
	return hexed(15, kind) + sevens(big.NewInt(int64(n)))
}

// mapOf tells the bytes of a map's head, or none, if there is no such head.
func mapOf(n int, key, val byte) string {
	switch {
	case n == 0:
		return "\x00"
	case n < 0 || n > many || !slices.Contains(kinds, key) || !slices.Contains(kinds, val):
		return ""
	}
	return sevens(big.NewInt(int64(n))) + hexed(int(key), val)
}

// wantRead reads a head of s, behind the bytes ahead and before those behind.
func wantRead(t *testing.T, read reader, ahead, s, behind string, want told) {
	t.Helper()
	c := cursor.New(ahead + s + behind)
	c.Take(len(ahead))
	got := read(c)
	if got != want || c.Err() != api.OK || c.At() != len(ahead)+len(s) || c.Left() != len(behind) {
		t.Errorf("%q between %q and %q: %v, at %d, left %d, error %d; want %v", s, ahead, behind, got, c.At(), c.Left(), c.Err(), want)
	}
}

// wantFail reads of s, behind the bytes ahead, what is no head.
func wantFail(t *testing.T, read reader, ahead, s string, want api.Code) {
	t.Helper()
	c := cursor.New(ahead + s)
	c.Take(len(ahead))
	got := read(c)
	if got != (told{}) || c.Err() != want || c.End() != want {
		t.Errorf("%q behind %q: %v, error %d; want none, error %d", s, ahead, got, c.Err(), want)
	}
}

// wantPut holds what stands behind b against the bytes of a head.
func wantPut(t *testing.T, got []byte, b, s string) {
	t.Helper()
	if string(got) != b+s {
		t.Errorf("put behind %q: %q, want %q", b, got, b+s)
	}
}

// 20.1: the kinds' numbers, which are bytes.
func TestKinds(t *testing.T) {
	got := [13]byte{
		chead.Stop, chead.True, chead.False, chead.Byte, chead.I16, chead.I32, chead.I64,
		chead.Double, chead.Text, chead.List, chead.Set, chead.Map, chead.Struct,
	}
	if want := [13]byte{0, 1, 2, 3, 4, 5, 6, 7, 8, 9, 10, 11, 12}; got != want {
		t.Errorf("%v, want %v", got, want)
	}
	const sum byte = chead.True + chead.Struct
	if sum != 13 {
		t.Error(sum)
	}
}

// 20.1: each byte there is, and just those from 1 to 12 are kinds.
func TestIs(t *testing.T) {
	for b := range 256 {
		if got, want := chead.Is(byte(b)), b >= 1 && b <= 12; got != want {
			t.Errorf("Is(%d): %v", b, got)
		}
	}
}

// 20.1: each two bytes there are: one number, or each of True and False, whether they are kinds or not.
func TestSame(t *testing.T) {
	for a := range 256 {
		for b := range 256 {
			want := a == b || a == 1 && b == 2 || a == 2 && b == 1
			if got := chead.Same(byte(a), byte(b)); got != want {
				t.Errorf("Same(%d, %d): %v", a, b, got)
			}
		}
	}
	if !chead.Same(chead.True, chead.False) || !chead.Same(chead.False, chead.True) || chead.Same(chead.True, chead.Stop) || chead.Same(chead.Byte, chead.False) {
		t.Error("of the truths by their names")
	}
}

// fields are heads of fields with their bytes written out.
var fields = []struct {
	last, id int
	kind     byte
	s        string
}{
	{2, 5, 8, "\x38"},
	{2, 2, 8, "\x08\x04"},
	{0, 1, 1, "\x11"},
	{0, 1, 2, "\x12"},
	{0, 1, 6, "\x16"},
	{0, 15, 12, "\xfc"},
	{0, 16, 12, "\x0c\x20"},
	{0, 0, 3, "\x03\x00"},
	{0, -1, 3, "\x03\x01"},
	{0, 17, 3, "\x03\x22"},
	{0, 63, 4, "\x04\x7e"},
	{0, -64, 4, "\x04\x7f"},
	{0, 64, 4, "\x04\x80\x01"},
	{0, -65, 4, "\x04\x81\x01"},
	{0, 8191, 5, "\x05\xfe\x7f"},
	{0, -8192, 5, "\x05\xff\x7f"},
	{0, 8192, 5, "\x05\x80\x80\x01"},
	{0, 32767, 7, "\x07\xfe\xff\x03"},
	{0, -32768, 7, "\x07\xff\xff\x03"},
	{-1, 0, 9, "\x19"},
	{-1, 14, 9, "\xf9"},
	{-1, 15, 9, "\x09\x1e"},
	{-8, 7, 10, "\xfa"},
	{-8, -7, 10, "\x1a"},
	{-8, -9, 10, "\x0a\x11"},
	{-32768, -32767, 11, "\x1b"},
	{-32768, -32753, 11, "\xfb"},
	{-32768, -32752, 11, "\x0b\xdf\xff\x03"},
	{-32768, -32768, 11, "\x0b\xff\xff\x03"},
	{32766, 32767, 1, "\x11"},
	{32752, 32767, 1, "\xf1"},
	{32751, 32767, 1, "\x01\xfe\xff\x03"},
	{32767, 32767, 1, "\x01\xfe\xff\x03"},
	{32767, 32766, 1, "\x01\xfc\xff\x03"},
	{32767, -32768, 1, "\x01\xff\xff\x03"},
	{-32768, 32767, 1, "\x01\xfe\xff\x03"},
}

// lists are heads of lists with their bytes written out.
var lists = []struct {
	n    int
	kind byte
	s    string
}{
	{0, 1, "\x01"},
	{0, 12, "\x0c"},
	{1, 8, "\x18"},
	{2, 1, "\x21"},
	{14, 5, "\xe5"},
	{15, 5, "\xf5\x0f"},
	{15, 12, "\xfc\x0f"},
	{16, 2, "\xf2\x10"},
	{127, 3, "\xf3\x7f"},
	{128, 3, "\xf3\x80\x01"},
	{300, 4, "\xf4\xac\x02"},
	{16383, 6, "\xf6\xff\x7f"},
	{16384, 6, "\xf6\x80\x80\x01"},
	{2097151, 7, "\xf7\xff\xff\x7f"},
	{2097152, 7, "\xf7\x80\x80\x80\x01"},
	{268435455, 9, "\xf9\xff\xff\xff\x7f"},
	{268435456, 9, "\xf9\x80\x80\x80\x80\x01"},
	{2147483646, 10, "\xfa\xfe\xff\xff\xff\x07"},
	{2147483647, 11, "\xfb\xff\xff\xff\xff\x07"},
}

// maps are heads of maps with their bytes written out.
var maps = []struct {
	n        int
	key, val byte
	s        string
}{
	{0, 0, 0, "\x00"},
	{1, 8, 8, "\x01\x88"},
	{1, 1, 12, "\x01\x1c"},
	{1, 12, 1, "\x01\xc1"},
	{2, 8, 6, "\x02\x86"},
	{15, 2, 3, "\x0f\x23"},
	{127, 4, 5, "\x7f\x45"},
	{128, 6, 7, "\x80\x01\x67"},
	{300, 9, 10, "\xac\x02\x9a"},
	{16384, 11, 12, "\x80\x80\x01\xbc"},
	{2147483647, 12, 12, "\xff\xff\xff\xff\x07\xcc"},
}

// The bytes that the tests hold the program against are themselves those that are written out.
func TestOf(t *testing.T) {
	for _, f := range fields {
		if s := fieldOf(f.last, f.id, f.kind); s != f.s {
			t.Errorf("%v: %q", f, s)
		}
	}
	for _, l := range lists {
		if s := listOf(l.n, l.kind); s != l.s {
			t.Errorf("%v: %q", l, s)
		}
	}
	for _, m := range maps {
		if s := mapOf(m.n, m.key, m.val); s != m.s {
			t.Errorf("%v: %q", m, s)
		}
	}
	if s := longer("\x82\x01", 4); s != "\x82\x81\x80\x00" {
		t.Errorf("%q", s)
	}
	if s := sevensOf(math.MaxUint64); s != "\xff\xff\xff\xff\xff\xff\xff\xff\xff\x01" {
		t.Errorf("%q", s)
	}
	if s := fieldOf(0, most+1, 1) + fieldOf(0, 1, 13) + listOf(-1, 1) + listOf(1, 0) + mapOf(many+1, 1, 1) + mapOf(1, 1, 13); s != "" {
		t.Errorf("%q", s)
	}
	if isFirst(math.MinInt64, math.MaxInt64) || isFirst(math.MaxInt64, math.MinInt64) || isFirst(least-1, least) || !isFirst(least, least+1) {
		t.Error("isFirst")
	}
}

// 20.2 to 20.4: heads whose bytes are written out, laid and read.
func TestWritten(t *testing.T) {
	for _, b := range []string{"", "\x00", "\x80", "abc"} {
		for _, f := range fields {
			wantPut(t, chead.PutField([]byte(b), f.last, f.id, f.kind), b, f.s)
			wantRead(t, fieldBehind(f.last), b, f.s, "\x96\x01", told{n: f.id, val: f.kind})
		}
		for _, l := range lists {
			wantPut(t, chead.PutList([]byte(b), l.n, l.kind), b, l.s)
			wantRead(t, list, b, l.s, "\x96\x01", told{n: l.n, val: l.kind})
		}
		for _, m := range maps {
			wantPut(t, chead.PutMap([]byte(b), m.n, m.key, m.val), b, m.s)
			wantRead(t, entries, b, m.s, "\x96\x01", told{m.n, m.key, m.val})
		}
	}
}

// 20.2: each number that a field may have, behind each of several: the first form where it can be, the second one where
// it can't; and both are read, the second one also where the first one is laid.
func TestFieldEach(t *testing.T) {
	for id := least; id <= most; id++ {
		kind := kinds[(id-least)%12]
		second := far(id, kind)
		want := told{n: id, val: kind}
		for _, last := range lasts() {
			s := second
			if last < id && id <= last+15 {
				s = hexed(id-last, kind)
			}
			got := chead.PutField(nil, last, id, kind)
			wantPut(t, got, "", s)
			wantRead(t, fieldBehind(last), "", s, "\x16", want)
			wantRead(t, fieldBehind(last), "x", second, "", want)
		}
	}
}

// 20.2: behind each number the numbers around it, and those around 15 and 16 above it, with each kind.
func TestFieldNear(t *testing.T) {
	for _, last := range lasts() {
		for by := -20; by <= 40; by++ {
			id := last + by
			for _, kind := range kinds {
				s := fieldOf(last, id, kind)
				wantPut(t, chead.PutField([]byte("x"), last, id, kind), "x", s)
				if id < least || id > most {
					continue
				}
				if want := by >= 1 && by <= 15; (len(s) == 1) != want {
					t.Errorf("behind %d the number %d has %q", last, id, s)
				}
				wantRead(t, fieldBehind(last), "", s, "\x00", told{n: id, val: kind})
			}
		}
	}
}

// 20.2: each number behind which one to fifteen follow, up to the greatest.
func TestFieldBehindEach(t *testing.T) {
	for last := least; last <= most; last++ {
		kind := kinds[(last-least)%12]
		for by := 1; by <= 16; by++ {
			id := last + by
			switch got := chead.PutField(nil, last, id, kind); {
			case id > most:
				wantPut(t, got, "", "")
			case by == 16:
				wantPut(t, got, "", far(id, kind))
			default:
				s := hexed(by, kind)
				wantPut(t, got, "", s)
				wantRead(t, fieldBehind(last), "", s, "", told{n: id, val: kind})
			}
		}
	}
}

// 20.2: behind a number that no field has: below -2^15 the second form alone, also of a number just above it; and above
// 2^15 - 1 there is none but the second one. Nothing goes round.
func TestFieldBehindNone(t *testing.T) {
	ids := []int{least, least + 1, least + 13, least + 14, least + 15, -1, 0, 1, 15, 16, most - 15, most - 14, most - 1, most}
	for _, last := range noLasts() {
		for _, id := range ids {
			for _, kind := range kinds {
				wantPut(t, chead.PutField([]byte("x"), last, id, kind), "x", far(id, kind))
			}
		}
		for by := -20; by <= 20; by++ {
			id := last + by
			wantPut(t, chead.PutField(nil, last, id, chead.Text), "", fieldOf(last, id, 8))
		}
	}
	wantPut(t, chead.PutField(nil, -32769, -32768, chead.Text), "", "\x08\xff\xff\x03")
	wantPut(t, chead.PutField(nil, -32770, -32768, chead.Text), "", "\x08\xff\xff\x03")
}

// 20.2: numbers by chance, near and far, the same ones each time.
func TestFieldOfChance(t *testing.T) {
	chance := rand.New(rand.NewSource(20))
	for range 20000 {
		last := least + chance.Intn(65536)
		id := least + chance.Intn(65536)
		if chance.Intn(2) == 0 {
			id = min(most, max(least, last+chance.Intn(40)-10))
		}
		kind := kinds[chance.Intn(12)]
		s := fieldOf(last, id, kind)
		wantPut(t, chead.PutField([]byte("ab"), last, id, kind), "ab", s)
		wantRead(t, fieldBehind(last), "a", s, "b", told{n: id, val: kind})
	}
}

// noIDs are numbers that no field has, among them such that go round to one in fewer bits, and those just behind last.
func noIDs(last int) []int {
	l := noLasts()
	for i := 15; i < 63; i++ {
		l = append(l, 1<<i, 1<<i+1, 1<<i+last, 1<<i+last+1, 1<<i+last+15, -1<<i-1, -1<<i-15, -1<<i+last, -1<<i+last+1)
	}
	for by := 1; by <= 16; by++ {
		l = append(l, last+by)
	}
	return slices.DeleteFunc(l, func(id int) bool { return id >= least && id <= most })
}

// 20.2: a number or a kind that there is not: b alone, in place of either form.
func TestPutNoField(t *testing.T) {
	for _, b := range []string{"", "\x00", "abc"} {
		for _, last := range append(lasts(), noLasts()...) {
			for _, id := range noIDs(last) {
				for _, kind := range []byte{1, 8, 12, 0, 13, 255} {
					wantPut(t, chead.PutField([]byte(b), last, id, kind), b, "")
				}
			}
			for _, kind := range noKinds() {
				for _, id := range []int{least, most, 0, last, last + 1, last + 15, last + 16, last - 1} {
					wantPut(t, chead.PutField([]byte(b), last, id, kind), b, "")
				}
			}
		}
	}
	if got := chead.PutField(nil, 0, 1, chead.Stop); len(got) != 0 {
		t.Errorf("%q", got)
	}
}

// 20.2: the byte 0 ends a struct: it is gone past, and there is no error.
func TestFieldStop(t *testing.T) {
	for _, last := range lasts() {
		for _, ahead := range []string{"", "\x00", "\x16\x0a", "abc"} {
			for _, behind := range []string{"", "\x00", "\x0d", "\x16", "\x80", "\xff\xff"} {
				wantRead(t, fieldBehind(last), ahead, "\x00", behind, told{})
			}
		}
	}
}

// 20.2: bits that are 0 alone may stand at the end of the number of the second form, up to its tenth byte.
func TestFieldWithZeros(t *testing.T) {
	for _, last := range lasts() {
		for _, id := range []int{least, -8193, -65, -64, -1, 0, 1, 2, 63, 64, 8192, most} {
			s := sevens(folded(id))
			for count := len(s); count <= 10; count++ {
				wantRead(t, fieldBehind(last), "x", "\x08"+longer(s, count), "\x00", told{n: id, val: 8})
			}
			wantFail(t, fieldBehind(last), "x", "\x08"+longer(s, 11), api.ErrRange)
		}
	}
}

// nines are texts of nine bytes of 128 or more.
var nines = []string{
	"\x80\x80\x80\x80\x80\x80\x80\x80\x80",
	"\x8a\x80\x80\x80\x80\x80\x80\x80\x80",
	"\xff\xff\xff\xff\xff\xff\xff\xff\xff",
	"\x8b\xff\x81\xfe\xaa\xd5\x80\xff\x80",
}

// tooGreat are bytes of numbers of more than 64 bits.
func tooGreat() []string {
	l := []string{strings.Repeat("\x8a", 1000)}
	for _, nine := range nines {
		for tenth := 2; tenth < 256; tenth++ {
			l = append(l, nine+one(byte(tenth)))
		}
	}
	return l
}

// tooFew are bytes that end ahead of their number's end.
func tooFew() []string {
	l := []string{""}
	for b := 128; b < 256; b++ {
		l = append(l, one(byte(b)))
	}
	for _, nine := range nines {
		for few := range 10 {
			l = append(l, nine[:few])
		}
	}
	return l
}

// 20.2 and 3.2: without a byte, and where the number is cut, ErrCut; where it is too great, ErrRange. A first form has
// no number that could be cut.
func TestFieldNumber(t *testing.T) {
	for _, last := range []int{0, least, most} {
		for _, ahead := range []string{"", "\x00", "abc"} {
			wantFail(t, fieldBehind(last), ahead, "", api.ErrCut)
			for _, kind := range kinds {
				for _, s := range tooFew() {
					wantFail(t, fieldBehind(last), ahead, one(kind)+s, api.ErrCut)
				}
				for _, s := range tooGreat() {
					wantFail(t, fieldBehind(last), ahead, one(kind)+s, api.ErrRange)
				}
			}
		}
	}
	for _, s := range append(tooFew(), tooGreat()...) {
		wantRead(t, fieldBehind(7), "", "\x3c", s, told{n: 10, val: 12})
	}
}

// 20.2: a first byte whose lowest four bits are no kind: ErrKind, whatever its upper ones are, and also where the number
// is wrong, or lacks, or is none; but for the byte 0.
func TestFieldNoKind(t *testing.T) {
	behind := append(tooFew(), nines[0]+"\x02", strings.Repeat("\xff", 12), "\x00", "\x02", "\x80\x80\x04", "\x81\x80\x04", "\x16")
	for _, last := range lasts() {
		for high := range 16 {
			for _, low := range []byte{0, 13, 14, 15} {
				first := hexed(high, low)
				if first == "\x00" {
					continue
				}
				for _, s := range behind {
					wantFail(t, fieldBehind(last), "", first+s, api.ErrKind)
					wantFail(t, fieldBehind(last), "\x00", first+s, api.ErrKind)
				}
			}
		}
	}
}

// 20.2: a number that no field has: ErrRange, of either form; one next to it that one has is read.
func TestFieldNoNumber(t *testing.T) {
	for _, last := range lasts() {
		for _, kind := range kinds {
			for by := 1; by <= 15; by++ {
				if id := last + by; id > most {
					wantFail(t, fieldBehind(last), "", hexed(by, kind), api.ErrRange)
					wantFail(t, fieldBehind(last), "x", hexed(by, kind)+"\x02", api.ErrRange)
				} else {
					wantRead(t, fieldBehind(last), "", hexed(by, kind), "", told{n: id, val: kind})
				}
			}
			for _, id := range noIDs(last) {
				wantFail(t, fieldBehind(last), "x", far(id, kind), api.ErrRange)
				wantFail(t, fieldBehind(last), "", far(id, kind)+"\x00", api.ErrRange)
			}
		}
	}
	for _, s := range []string{"\x08\x80\x80\x04", "\x08\x81\x80\x04", "\x08\x80\x80\x84\x00", "\x08" + nines[2] + "\x01", "\x08" + nines[0] + "\x01", "\x08\xfe" + nines[2][:8] + "\x01"} {
		wantFail(t, fieldBehind(0), "", s, api.ErrRange)
	}
}

// 20.3: each count with each kind: one byte below 15, and from 15 on the number's bytes behind one; read again, with
// others ahead and behind.
func TestList(t *testing.T) {
	for _, n := range counts() {
		for _, kind := range kinds {
			s := listOf(n, kind)
			if (len(s) == 1) != (n < 15) {
				t.Errorf("a list of %d has %q", n, s)
			}
			for _, b := range []string{"", "\xf0", "abc"} {
				wantPut(t, chead.PutList([]byte(b), n, kind), b, s)
				wantRead(t, list, b, s, "", told{n: n, val: kind})
				wantRead(t, list, b, s, "\x80", told{n: n, val: kind})
			}
		}
	}
}

// 20.3: counts by chance, of any number of bits, the same ones each time.
func TestListOfChance(t *testing.T) {
	chance := rand.New(rand.NewSource(21))
	for range 20000 {
		n, kind := chance.Intn(many+1)>>chance.Intn(31), kinds[chance.Intn(12)]
		s := listOf(n, kind)
		wantPut(t, chead.PutList([]byte("ab"), n, kind), "ab", s)
		wantRead(t, list, "a", s, "b", told{n: n, val: kind})
	}
}

// 20.3: the longer form is read of any count, those below 15 too, and with bits that are 0 alone at the number's end.
func TestListLonger(t *testing.T) {
	for _, n := range counts() {
		for _, kind := range kinds {
			s := sevens(big.NewInt(int64(n)))
			for count := len(s); count <= 10; count++ {
				wantRead(t, list, "x", hexed(15, kind)+longer(s, count), "\x00", told{n: n, val: kind})
			}
			wantFail(t, list, "x", hexed(15, kind)+longer(s, 11), api.ErrRange)
		}
	}
	wantRead(t, list, "", "\xf8\x00", "", told{n: 0, val: 8})
	wantRead(t, list, "", "\xf8\x0e", "", told{n: 14, val: 8})
}

// 20.3: a count or a kind that there is not: b alone; the kind of no things is asked for, too.
func TestPutNoList(t *testing.T) {
	for _, b := range []string{"", "\x00", "abc"} {
		for _, n := range noCounts() {
			for kind := range 256 {
				wantPut(t, chead.PutList([]byte(b), n, byte(kind)), b, "")
			}
		}
		for _, n := range []int{0, 1, 14, 15, 16, 300, many} {
			for _, kind := range noKinds() {
				wantPut(t, chead.PutList([]byte(b), n, kind), b, "")
			}
		}
	}
	if got := chead.PutList(nil, 0, chead.Stop); len(got) != 0 {
		t.Errorf("%q", got)
	}
}

// 20.3: no byte, then no kind, then what is wrong with the number, then a count that there is not.
func TestListWrong(t *testing.T) {
	for _, ahead := range []string{"", "\x00", "\x18"} {
		wantFail(t, list, ahead, "", api.ErrCut)
		for _, low := range []byte{0, 13, 14, 15} {
			for high := range 16 {
				for _, s := range append(tooFew(), nines[0]+"\x02", strings.Repeat("\xff", 12), "\x00", "\x0f", sevensOf(many+1)) {
					wantFail(t, list, ahead, hexed(high, low)+s, api.ErrKind)
				}
			}
		}
		for _, kind := range kinds {
			for _, s := range tooFew() {
				wantFail(t, list, ahead, hexed(15, kind)+s, api.ErrCut)
			}
			for _, s := range tooGreat() {
				wantFail(t, list, ahead, hexed(15, kind)+s, api.ErrRange)
			}
			for _, u := range tooMany() {
				wantFail(t, list, ahead, hexed(15, kind)+sevensOf(u), api.ErrRange)
				wantFail(t, list, ahead, hexed(15, kind)+sevensOf(u)+"\x00", api.ErrRange)
			}
		}
	}
	for _, s := range append(tooFew(), tooGreat()...) {
		wantRead(t, list, "", "\xec", s, told{n: 14, val: 12})
	}
}

// tooMany are numbers that no list or map has, among them such that go round to one in fewer bits.
func tooMany() []uint64 {
	l := []uint64{many + 1, many + 2, math.MaxUint32, math.MaxUint64, math.MaxInt64, math.MaxInt64 - 1, math.MaxUint64 - 1, math.MaxUint64 - 14}
	for i := 31; i < 64; i++ {
		l = append(l, 1<<i, 1<<i+1, 1<<i+14, 1<<i+15, 1<<i+16, 1<<i+many)
	}
	return l
}

// 20.4: each count with each two kinds, laid and read again, with others ahead and behind.
func TestMap(t *testing.T) {
	for _, n := range counts() {
		if n == 0 {
			continue
		}
		for _, key := range kinds {
			for _, val := range kinds {
				s := mapOf(n, key, val)
				for _, b := range []string{"", "\xf0ab"} {
					wantPut(t, chead.PutMap([]byte(b), n, key, val), b, s)
					wantRead(t, entries, b, s, "", told{n, key, val})
					wantRead(t, entries, b, s, "\x80", told{n, key, val})
				}
			}
		}
	}
}

// 20.4: counts by chance, of any number of bits, the same ones each time.
func TestMapOfChance(t *testing.T) {
	chance := rand.New(rand.NewSource(22))
	for range 20000 {
		n, key, val := max(1, chance.Intn(many+1)>>chance.Intn(31)), kinds[chance.Intn(12)], kinds[chance.Intn(12)]
		s := mapOf(n, key, val)
		wantPut(t, chead.PutMap([]byte("ab"), n, key, val), "ab", s)
		wantRead(t, entries, "a", s, "b", told{n, key, val})
	}
}

// 20.4: without entries the head is one byte, whatever the kinds, which are read as Stop; what stands behind is not read.
func TestMapOfNone(t *testing.T) {
	for key := range 256 {
		for val := range 256 {
			wantPut(t, chead.PutMap([]byte("x"), 0, byte(key), byte(val)), "x", "\x00")
		}
	}
	wantPut(t, chead.PutMap(nil, 0, chead.Stop, chead.Stop), "", "\x00")
	for _, behind := range []string{"", "\x00", "\x88", "\x8d", "\xd8", "\xff"} {
		for count := 1; count <= 10; count++ {
			wantRead(t, entries, "x", longer("\x00", count), behind, told{})
		}
	}
}

// 20.4: bits that are 0 alone may stand at the number's end, up to its tenth byte.
func TestMapLonger(t *testing.T) {
	for _, n := range counts() {
		if n == 0 {
			continue
		}
		s := sevens(big.NewInt(int64(n)))
		for count := len(s); count <= 10; count++ {
			wantRead(t, entries, "x", longer(s, count)+"\x8c", "\x00", told{n, 8, 12})
		}
		wantFail(t, entries, "x", longer(s, 11)+"\x8c", api.ErrRange)
	}
}

// 20.4: a count or kinds that there are not: b alone.
func TestPutNoMap(t *testing.T) {
	for _, b := range []string{"", "\x00", "abc"} {
		for _, n := range noCounts() {
			for _, key := range []byte{0, 1, 8, 12, 13, 16, 255} {
				for _, val := range []byte{0, 1, 8, 12, 13, 16, 255} {
					wantPut(t, chead.PutMap([]byte(b), n, key, val), b, "")
				}
			}
		}
		for _, n := range []int{1, 2, 14, 15, 128, many} {
			for _, no := range noKinds() {
				for _, kind := range kinds {
					wantPut(t, chead.PutMap([]byte(b), n, no, kind), b, "")
					wantPut(t, chead.PutMap([]byte(b), n, kind, no), b, "")
				}
				wantPut(t, chead.PutMap([]byte(b), n, no, no), b, "")
			}
		}
	}
	if got := chead.PutMap(nil, -1, 1, 1); len(got) != 0 {
		t.Errorf("%q", got)
	}
}

// 20.4: what is wrong with the number, then a count that there is not, then no byte, then no kind: the key's, the
// value's, or both.
func TestMapWrong(t *testing.T) {
	for _, ahead := range []string{"", "\x00", "\x01\x88"} {
		for _, s := range tooFew() {
			wantFail(t, entries, ahead, s, api.ErrCut)
		}
		for _, s := range tooGreat() {
			for _, behind := range []string{"", "\x88", "\x00"} {
				wantFail(t, entries, ahead, s+behind, api.ErrRange)
			}
		}
		for _, u := range tooMany() {
			for _, behind := range []string{"", "\x88", "\x00", "\xdd"} {
				wantFail(t, entries, ahead, sevensOf(u)+behind, api.ErrRange)
			}
		}
		for _, n := range []int{1, 2, 127, 128, many} {
			s := sevens(big.NewInt(int64(n)))
			wantFail(t, entries, ahead, s, api.ErrCut)
			for b := range 256 {
				key, val := byte(b/16), byte(b%16)
				if slices.Contains(kinds, key) && slices.Contains(kinds, val) {
					wantRead(t, entries, ahead, s+one(byte(b)), "", told{n, key, val})
				} else {
					wantFail(t, entries, ahead, s+one(byte(b)), api.ErrKind)
					wantFail(t, entries, ahead, s+one(byte(b))+"\x88", api.ErrKind)
				}
			}
		}
	}
}

// number reads a number's bytes by its digits to the base 2, and tells how many bytes it has.
func number(s string) (*big.Int, int, api.Code) {
	digits := ""
	for i := range min(10, len(s)) {
		if i == 9 && s[i] > 1 {
			return nil, 0, api.ErrRange
		}
		bits := fmt.Sprintf("%08b", s[i])
		digits = bits[1:] + digits
		if bits[0] == '0' {
			u, _ := new(big.Int).SetString(digits, 2)
			return u, i + 1, api.OK
		}
	}
	return nil, 0, api.ErrCut
}

// unfolded tells the number that was folded, without a bound.
func unfolded(u *big.Int) *big.Int {
	if u.Bit(0) == 0 {
		return new(big.Int).Div(u, big.NewInt(2))
	}
	more := new(big.Int).Add(u, big.NewInt(1))
	return more.Neg(more.Div(more, big.NewInt(2)))
}

// within tells whether a number is from one to another.
func within(u *big.Int, from, to int64) bool {
	return u.Cmp(big.NewInt(from)) >= 0 && u.Cmp(big.NewInt(to)) <= 0
}

// digits tells the two digits of a byte to the base 16.
func digits(b byte) (high int, low byte) {
	s := fmt.Sprintf("%02x", b)
	return strings.IndexByte("0123456789abcdef", s[0]), byte(strings.IndexByte("0123456789abcdef", s[1]))
}

// apart is a reader made apart: what it tells of a text's head, how many bytes that has, and what is wrong.
type apart func(s string) (told, int, api.Code)

// fieldApart reads a field's head.
func fieldApart(last int) apart {
	return func(s string) (told, int, api.Code) {
		if s == "" {
			return told{}, 0, api.ErrCut
		}
		high, low := digits(s[0])
		id, size := big.NewInt(int64(last+high)), 0
		switch {
		case high == 0 && low == 0:
			return told{}, 1, api.OK
		case !slices.Contains(kinds, low):
			return told{}, 0, api.ErrKind
		case high == 0:
			u, count, code := number(s[1:])
			if code != api.OK {
				return told{}, 0, code
			}
			id, size = unfolded(u), count
		}
		if !within(id, least, most) {
			return told{}, 0, api.ErrRange
		}
		return told{n: int(id.Int64()), val: low}, 1 + size, api.OK
	}
}

// listApart reads a list's head.
func listApart(s string) (told, int, api.Code) {
	if s == "" {
		return told{}, 0, api.ErrCut
	}
	high, low := digits(s[0])
	if !slices.Contains(kinds, low) {
		return told{}, 0, api.ErrKind
	}
	if high < 15 {
		return told{n: high, val: low}, 1, api.OK
	}
	u, size, code := number(s[1:])
	if code == api.OK && !within(u, 0, many) {
		code = api.ErrRange
	}
	if code != api.OK {
		return told{}, 0, code
	}
	return told{n: int(u.Int64()), val: low}, 1 + size, api.OK
}

// mapApart reads a map's head.
func mapApart(s string) (told, int, api.Code) {
	u, size, code := number(s)
	switch {
	case code != api.OK:
		return told{}, 0, code
	case !within(u, 0, many):
		return told{}, 0, api.ErrRange
	case u.Sign() == 0:
		return told{}, size, api.OK
	case len(s) == size:
		return told{}, 0, api.ErrCut
	}
	high, low := digits(s[size])
	if !slices.Contains(kinds, byte(high)) || !slices.Contains(kinds, low) {
		return told{}, 0, api.ErrKind
	}
	return told{int(u.Int64()), byte(high), low}, size + 1, api.OK
}

// pair is a reader of the program, and the one made apart.
type pair struct {
	read  reader
	apart apart
}

// pairs are those of each kind of head, that of a field behind several numbers.
func pairs() []pair {
	l := []pair{{list, listApart}, {entries, mapApart}}
	for _, last := range []int{0, least, most, 32760, -8, 300} {
		l = append(l, pair{fieldBehind(last), fieldApart(last)})
	}
	return l
}

// wantAs reads of any bytes what the reader made apart reads of them.
func wantAs(t *testing.T, p pair, s string) {
	t.Helper()
	want, size, code := p.apart(s)
	if code != api.OK {
		wantFail(t, p.read, "\x18", s, code)
		return
	}
	wantRead(t, p.read, "\x18", s[:size], s[size:], want)
}

// 20.2 to 20.4: of each text of up to two bytes, and of three and four of bytes at the bounds, what a reader made apart
// reads.
func TestReadAny(t *testing.T) {
	bounds := []byte{0, 1, 2, 7, 12, 13, 15, 16, 17, 28, 29, 127, 128, 129, 136, 193, 204, 205, 240, 241, 252, 253, 254, 255}
	for _, p := range pairs() {
		wantAs(t, p, "")
		for a := range 256 {
			wantAs(t, p, one(byte(a)))
			for b := range 256 {
				wantAs(t, p, string([]byte{byte(a), byte(b)}))
			}
		}
		for _, a := range bounds {
			for _, b := range bounds {
				for _, c := range bounds {
					wantAs(t, p, string([]byte{a, b, c}))
					wantAs(t, p, string([]byte{a, 128 | b, c, a ^ b}))
				}
			}
		}
	}
}

// 20.2 to 20.4: of texts by chance, the same ones each time, with many bytes of 128 or more, the same.
func TestReadOfChance(t *testing.T) {
	for _, p := range pairs() {
		chance := rand.New(rand.NewSource(23))
		for range 20000 {
			s := make([]byte, chance.Intn(15))
			for i := range s {
				s[i] = byte(chance.Intn(256))
				if chance.Intn(4) > 0 && i > 0 {
					s[i] |= 128
				}
			}
			if len(s) > 10 && chance.Intn(2) == 0 {
				s[9], s[10] = byte(chance.Intn(3)), byte(chance.Intn(3))
			}
			wantAs(t, p, string(s))
		}
	}
}

// puts are calls that lay heads of each form, and such that lay nothing, with what they lay.
var puts = []struct {
	put func(b []byte) []byte
	s   string
}{
	{func(b []byte) []byte { return chead.PutField(b, 0, 1, 8) }, "\x18"},
	{func(b []byte) []byte { return chead.PutField(b, 1, 300, 8) }, "\x08\xd8\x04"},
	{func(b []byte) []byte { return chead.PutField(b, 0, 1, 0) }, ""},
	{func(b []byte) []byte { return chead.PutField(b, 0, 32768, 1) }, ""},
	{func(b []byte) []byte { return chead.PutList(b, 3, 8) }, "\x38"},
	{func(b []byte) []byte { return chead.PutList(b, 300, 8) }, "\xf8\xac\x02"},
	{func(b []byte) []byte { return chead.PutList(b, 3, 13) }, ""},
	{func(b []byte) []byte { return chead.PutList(b, -1, 8) }, ""},
	{func(b []byte) []byte { return chead.PutMap(b, 0, 1, 2) }, "\x00"},
	{func(b []byte) []byte { return chead.PutMap(b, 2, 8, 6) }, "\x02\x86"},
	{func(b []byte) []byte { return chead.PutMap(b, 300, 8, 6) }, "\xac\x02\x86"},
	{func(b []byte) []byte { return chead.PutMap(b, 2, 0, 6) }, ""},
	{func(b []byte) []byte { return chead.PutMap(b, -1, 8, 6) }, ""},
}

// 20.2 to 20.4: behind no bytes, and behind some, stands the head.
func TestPutBehind(t *testing.T) {
	for _, b := range [][]byte{nil, {}, {0}, {24}, {127}, {128}, {255}, []byte("abc"), bytes.Repeat([]byte{200}, 100)} {
		for _, p := range puts {
			wantPut(t, p.put(b), string(b), p.s)
		}
	}
}

// 20.2 to 20.4 and R3: a new list: neither b, nor what lies behind its length, is written to, and no answer shares with
// b, or with another answer, also where nothing is put.
func TestPutApart(t *testing.T) {
	const all = "0123456789abcdefghij"
	for _, first := range puts {
		for _, second := range puts {
			for _, have := range []int{0, 3, 20} {
				whole := []byte(all)
				b := whole[:have]
				got, other := first.put(b), second.put(b)
				if string(whole) != all {
					t.Errorf("laying %q, or %q, writes to what was handed in: %q", first.s, second.s, whole)
				}
				wantPut(t, got, all[:have], first.s)
				fill(got[:cap(got)], 'x')
				fill(whole, 'y')
				wantPut(t, other, all[:have], second.s)
				fill(other[:cap(other)], 'z')
				if want := strings.Repeat("y", len(all)); string(whole) != want {
					t.Errorf("what was handed in changed with an answer: %q", whole)
				}
			}
		}
	}
}

// fill lays one byte at each place.
func fill(l []byte, b byte) {
	for i := range l {
		l[i] = b
	}
}

// 20.2 to 20.4 and R3: what lay behind b's length is not handed out behind the answer's.
func TestPutHidesRest(t *testing.T) {
	for _, have := range []int{0, 2, 63} {
		whole := bytes.Repeat([]byte{'s'}, 64)
		for _, p := range puts {
			got := p.put(whole[:have])
			if rest := got[len(got):cap(got)]; bytes.Contains(rest, []byte{'s'}) {
				t.Errorf("laying %q hands out %q", p.s, rest)
			}
		}
	}
}

// 20.2 to 20.4: heads of all kinds, laid one behind the other, are read one behind the other; the fields each behind the
// one ahead.
func TestOnAndOn(t *testing.T) {
	chance := rand.New(rand.NewSource(24))
	for range 300 {
		var b []byte
		var reads []reader
		var wants []told
		last := 0
		for range chance.Intn(40) {
			n, key, val := chance.Intn(many+1)>>chance.Intn(31), kinds[chance.Intn(12)], kinds[chance.Intn(12)]
			switch chance.Intn(4) {
			case 0:
				b = chead.PutList(b, n, val)
				reads, wants = append(reads, list), append(wants, told{n: n, val: val})
			case 1:
				b = chead.PutMap(b, n, key, val)
				want := told{n, key, val}
				if n == 0 {
					want = told{}
				}
				reads, wants = append(reads, entries), append(wants, want)
			default:
				id := least + chance.Intn(65536)
				if chance.Intn(2) == 0 {
					id = min(most, last+chance.Intn(18))
				}
				b = chead.PutField(b, last, id, val)
				reads, wants = append(reads, fieldBehind(last)), append(wants, told{n: id, val: val})
				last = id
			}
		}
		c := cursor.New(string(b) + "\x00")
		for i, read := range reads {
			if got := read(c); got != wants[i] || c.Err() != api.OK {
				t.Errorf("%v, error %d, want %v", got, c.Err(), wants[i])
			}
		}
		if got := fieldBehind(last)(c); got != (told{}) || c.End() != api.OK {
			t.Errorf("at the end: %v, end %d", got, c.End())
		}
	}
}

// 20.2 to 20.4: in a part of a cursor a head is read as in all of it; bytes beyond the part lack, even if the text has
// them.
func TestReadWithinBounds(t *testing.T) {
	for _, h := range []struct {
		read reader
		s    string
		want told
	}{
		{fieldBehind(2), "\x38", told{n: 5, val: 8}},
		{fieldBehind(2), "\x08\xd8\x04", told{n: 300, val: 8}},
		{fieldBehind(2), "\x00", told{}},
		{list, "\xe8", told{n: 14, val: 8}},
		{list, "\xf8\xac\x02", told{n: 300, val: 8}},
		{entries, "\x00", told{}},
		{entries, "\xac\x02\x86", told{300, 8, 6}},
	} {
		c := cursor.New("a" + h.s + h.s + h.s + "z")
		c.Byte()
		just, more, few := c.Sub(len(h.s)), c.Sub(len(h.s)), c.Sub(len(h.s)-1)
		for _, part := range []*cursor.Cursor{just, more} {
			from := part.At()
			if got := h.read(part); got != h.want || part.End() != api.OK || part.At() != from+len(h.s) {
				t.Errorf("%q in a part: %v, end %d, at %d", h.s, got, part.End(), part.At())
			}
		}
		if got := h.read(few); got != (told{}) || few.Err() != api.ErrCut {
			t.Errorf("%q, a byte too few: %v, error %d", h.s, got, few.Err())
		}
		if c.Err() != api.OK || c.At() != 3*len(h.s) || c.Left() != 2 {
			t.Errorf("the cursor around these: error %d, at %d, left %d", c.Err(), c.At(), c.Left())
		}
	}
}

// 20.2 to 20.4: a cursor that has an error keeps it, whatever stands there, and no head is read.
func TestReadOfFailed(t *testing.T) {
	for _, read := range readers() {
		for _, code := range []api.Code{api.ErrCut, api.ErrTail, api.ErrForm, api.ErrRange, api.ErrKind, api.ErrNone, api.ErrWeight, -1} {
			for _, s := range []string{"", "\x00", "\x01", "\x18", "\x0d", "\x80", "\x01\x88", "\x08\x04", "\xf8\x0f", "\xff", "\x08" + nines[0] + "\x02"} {
				c := cursor.New(s)
				c.Fail(code)
				for range 2 {
					if got := read(c); got != (told{}) || c.Err() != code || c.At() != 0 || c.Left() != len(s) {
						t.Errorf("%q with error %d: %v, error %d, at %d, left %d", s, code, got, c.Err(), c.At(), c.Left())
					}
				}
			}
		}
	}
}

// 20.2 to 20.4: behind what was no head none is read any more, and the first error stays.
func TestReadBehindError(t *testing.T) {
	for _, h := range []struct {
		read reader
		s    string
		code api.Code
	}{
		{fieldBehind(0), "\x0d", api.ErrKind},
		{fieldBehind(0), "\x08\x80\x80\x04", api.ErrRange},
		{fieldBehind(most), "\x18", api.ErrRange},
		{list, "\x00", api.ErrKind},
		{list, "\xf8\x80\x80\x80\x80\x08", api.ErrRange},
		{entries, "\x80\x80\x80\x80\x08", api.ErrRange},
		{entries, "\x01\x80", api.ErrKind},
	} {
		c := cursor.New(h.s + "\x11\x11\x11\x11\x11\x11")
		h.read(c)
		for _, read := range append(readers(), h.read) {
			if got := read(c); got != (told{}) || c.Err() != h.code {
				t.Errorf("behind %q: %v, error %d, want %d", h.s, got, c.Err(), h.code)
			}
		}
	}
}

// 20.2 to 20.4 and R6: of a cursor that is nil no head, and no panic.
func TestReadOfNil(t *testing.T) {
	for _, read := range readers() {
		if got := read(nil); got != (told{}) {
			t.Error(got)
		}
	}
}
