package ptag_test

import (
	"bytes"
	"math"
	"math/big"
	"math/rand"
	"slices"
	"strings"
	"testing"

	"truchman/api"
	"truchman/cursor"
	"truchman/ptag"
)

// most is the greatest number of a field.
const most = 536870911

// written are tags with their bytes written out.
var written = []struct {
	number, wire int
	s            string
}{
	{1, 0, "\x08"},
	{1, 1, "\x09"},
	{1, 2, "\x0a"},
	{1, 5, "\x0d"},
	{2, 0, "\x10"},
	{3, 1, "\x19"},
	{4, 2, "\x22"},
	{7, 5, "\x3d"},
	{8, 2, "\x42"},
	{15, 0, "\x78"},
	{15, 1, "\x79"},
	{15, 2, "\x7a"},
	{15, 5, "\x7d"},
	{16, 0, "\x80\x01"},
	{16, 1, "\x81\x01"},
	{16, 2, "\x82\x01"},
	{16, 5, "\x85\x01"},
	{31, 5, "\xfd\x01"},
	{32, 0, "\x80\x02"},
	{150, 2, "\xb2\x09"},
	{2047, 0, "\xf8\x7f"},
	{2047, 1, "\xf9\x7f"},
	{2047, 2, "\xfa\x7f"},
	{2047, 5, "\xfd\x7f"},
	{2048, 0, "\x80\x80\x01"},
	{2048, 1, "\x81\x80\x01"},
	{2048, 2, "\x82\x80\x01"},
	{2048, 5, "\x85\x80\x01"},
	{262143, 0, "\xf8\xff\x7f"},
	{262143, 1, "\xf9\xff\x7f"},
	{262143, 2, "\xfa\xff\x7f"},
	{262143, 5, "\xfd\xff\x7f"},
	{262144, 0, "\x80\x80\x80\x01"},
	{262144, 1, "\x81\x80\x80\x01"},
	{262144, 2, "\x82\x80\x80\x01"},
	{262144, 5, "\x85\x80\x80\x01"},
	{33554431, 0, "\xf8\xff\xff\x7f"},
	{33554431, 1, "\xf9\xff\xff\x7f"},
	{33554431, 2, "\xfa\xff\xff\x7f"},
	{33554431, 5, "\xfd\xff\xff\x7f"},
	{33554432, 0, "\x80\x80\x80\x80\x01"},
	{33554432, 1, "\x81\x80\x80\x80\x01"},
	{33554432, 2, "\x82\x80\x80\x80\x01"},
	{33554432, 5, "\x85\x80\x80\x80\x01"},
	{536870910, 0, "\xf0\xff\xff\xff\x0f"},
	{536870910, 2, "\xf2\xff\xff\xff\x0f"},
	{536870911, 0, "\xf8\xff\xff\xff\x0f"},
	{536870911, 1, "\xf9\xff\xff\xff\x0f"},
	{536870911, 2, "\xfa\xff\xff\xff\x0f"},
	{536870911, 5, "\xfd\xff\xff\xff\x0f"},
}

// wires are the four wire types.
var wires = []int{0, 1, 2, 5}

// numbers are those around each power of two that are a field's, and others.
func numbers() []int {
	list := []int{3, 150, 1000, 19000, 19999, 123456789, 357913941, 178956970, most - 1, most}
	for i := range 29 {
		p := 1 << i
		list = append(list, p-1, p, p+1)
	}
	slices.Sort(list)
	return slices.Compact(list[slices.Index(list, 1):])
}

// noNumbers are no field's: 0, those below 0 and those beyond the greatest one, among them such that 8 times the number,
// or the number in fewer bits, goes round to a field's.
func noNumbers() []int {
	list := []int{0, most + 1, most + 2, most + 10, math.MaxInt32, math.MaxUint32, math.MaxInt64, math.MaxInt64 - 1, math.MinInt64, math.MinInt64 + 1, math.MinInt32}
	for i := range 30 {
		list = append(list, -1<<i, -1<<i-1, -1<<i+1)
	}
	for i := 29; i < 63; i++ {
		p := 1 << i
		list = append(list, p-1, p, p+1, p+2, p+most, -p, -p-1, -p+1, -p+2, -p+most)
	}
	slices.Sort(list)
	return slices.DeleteFunc(slices.Compact(list), func(number int) bool { return 1 <= number && number <= most })
}

// noWires are no wire types, among them such that go round to one in fewer bits.
func noWires() []int {
	list := []int{3, 4, 6, 7, math.MaxInt64, math.MinInt64, math.MinInt64 + 2, math.MaxInt32, math.MinInt32, math.MaxUint32}
	for wire := 8; wire < 300; wire++ {
		list = append(list, wire)
	}
	for wire := -300; wire < 0; wire++ {
		list = append(list, wire)
	}
	for i := 9; i < 63; i++ {
		for _, wire := range wires {
			list = append(list, 1<<i+wire, -1<<i+wire)
		}
	}
	return list
}

// tags are each of the numbers with each wire type.
func tags() []ptag.Tag {
	var list []ptag.Tag
	for _, number := range numbers() {
		for _, wire := range wires {
			list = append(list, ptag.Tag{Number: number, Wire: wire})
		}
	}
	return list
}

// noTags are pairs of a number and a wire type that are no tags, by one of them or both.
func noTags() []ptag.Tag {
	list := []ptag.Tag{{}}
	for _, number := range noNumbers() {
		for _, wire := range []int{0, 1, 2, 5, 3, 4, 6, 7, 8, 10, -1, -3, -6, -8, math.MaxInt64, math.MinInt64} {
			list = append(list, ptag.Tag{Number: number, Wire: wire})
		}
	}
	for _, wire := range noWires() {
		for _, number := range []int{1, 2, 15, 16, 2047, 2048, 262144, 33554432, most - 1, most} {
			list = append(list, ptag.Tag{Number: number, Wire: wire})
		}
	}
	return list
}

// told tells 8 times a number, and a wire type, both of them of any size, without a bound.
func told(number, wire *big.Int) *big.Int {
	eight := new(big.Int).Mul(number, big.NewInt(8))
	return eight.Add(eight, wire)
}

// lay tells a number's bytes by its digits to the base 2: cut by sevens from the right, with a digit 1 ahead of each
// but those that stand leftmost.
func lay(u *big.Int) string {
	digits := u.Text(2)
	var list []byte
	for len(digits) > 0 {
		cut := max(0, len(digits)-7)
		seven, _ := new(big.Int).SetString(digits[cut:], 2)
		b := byte(seven.Uint64())
		if cut > 0 {
			b += 128
		}
		list = append(list, b)
		digits = digits[:cut]
	}
	return string(list)
}

// bytesOf tells a tag's bytes.
func bytesOf(t ptag.Tag) string {
	return lay(told(big.NewInt(int64(t.Number)), big.NewInt(int64(t.Wire))))
}

// longer tells bytes with bits that are 0 alone at their end, count bytes in all.
func longer(s string, count int) string {
	last := len(s) - 1
	return s[:last] + string([]byte{s[last] + 128}) + strings.Repeat("\x80", count-len(s)-1) + "\x00"
}

// The bytes that the tests hold the program against are themselves those that are written out.
func TestBytesOf(t *testing.T) {
	for _, one := range written {
		if s := bytesOf(ptag.Tag{Number: one.number, Wire: one.wire}); s != one.s {
			t.Errorf("number %d, wire type %d: %q, want %q", one.number, one.wire, s, one.s)
		}
	}
	if s := longer("\x82\x01", 4); s != "\x82\x81\x80\x00" {
		t.Errorf("%q", s)
	}
	if s := lay(new(big.Int)); s != "\x00" {
		t.Errorf("%q", s)
	}
	if s := lay(new(big.Int).SetUint64(math.MaxUint64)); s != "\xff\xff\xff\xff\xff\xff\xff\xff\xff\x01" {
		t.Errorf("%q", s)
	}
}

// 16.1: the wire types' numbers, which are constants of any kind of number.
func TestWires(t *testing.T) {
	const sum uint8 = ptag.Varint + ptag.Fixed64 + ptag.Bytes + ptag.Fixed32
	if ptag.Varint != 0 || ptag.Fixed64 != 1 || ptag.Bytes != 2 || ptag.Fixed32 != 5 || sum != 8 {
		t.Error(ptag.Varint, ptag.Fixed64, ptag.Bytes, ptag.Fixed32)
	}
}

// wantTag asks May, Put and Size of a tag with these bytes.
func wantTag(t *testing.T, one ptag.Tag, s string) {
	t.Helper()
	if !one.May() {
		t.Errorf("%v.May(): false", one)
	}
	if b := ptag.Put(nil, one); string(b) != s {
		t.Errorf("Put(nil, %v): %q, want %q", one, b, s)
	}
	if n := ptag.Size(one); n != len(s) {
		t.Errorf("Size(%v): %d, want %d", one, n, len(s))
	}
}

// wantNone asks May, Put and Size of what is no tag.
func wantNone(t *testing.T, one ptag.Tag) {
	t.Helper()
	if one.May() {
		t.Errorf("%v.May(): true", one)
	}
	for _, b := range []string{"", "\x80", "abc"} {
		if got := ptag.Put([]byte(b), one); string(got) != b {
			t.Errorf("Put(%q, %v): %q", b, one, got)
		}
	}
	if got := ptag.Put(nil, one); len(got) != 0 {
		t.Errorf("Put(nil, %v): %q", one, got)
	}
	if n := ptag.Size(one); n != 0 {
		t.Errorf("Size(%v): %d, want 0", one, n)
	}
}

// 16.1: tags with their bytes written out.
func TestWritten(t *testing.T) {
	for _, one := range written {
		wantTag(t, ptag.Tag{Number: one.number, Wire: one.wire}, one.s)
	}
}

// 16.1: each wire type with numbers around each power of two; where eight times the number needs a seventh bit more, a
// byte more is wanted, and just there.
func TestTags(t *testing.T) {
	for _, one := range tags() {
		wantTag(t, one, bytesOf(one))
	}
	for count, first := range map[int]int{1: 1, 2: 16, 3: 2048, 4: 262144, 5: 33554432} {
		for _, wire := range wires {
			if n := ptag.Size(ptag.Tag{Number: first, Wire: wire}); n != count {
				t.Errorf("Size of the number %d: %d, want %d", first, n, count)
			}
			if n := ptag.Size(ptag.Tag{Number: first - 1, Wire: wire}); n != count-1 {
				t.Errorf("Size of the number %d: %d, want %d", first-1, n, count-1)
			}
		}
	}
}

// 16.1: each of the smaller numbers, and numbers by chance, the same ones each time.
func TestTagsOfChance(t *testing.T) {
	for number := 1; number < 5000; number++ {
		one := ptag.Tag{Number: number, Wire: wires[number%4]}
		wantTag(t, one, bytesOf(one))
	}
	chance := rand.New(rand.NewSource(16))
	for range 5000 {
		one := ptag.Tag{Number: 1 + chance.Intn(most), Wire: wires[chance.Intn(4)]}
		wantTag(t, one, bytesOf(one))
	}
}

// 16.1: a number that is no field's, or a wire type that is none, make no tag.
func TestNoTags(t *testing.T) {
	for _, one := range noTags() {
		wantNone(t, one)
	}
}

// 16.1: of each wire type around the four, with each number around the bounds.
func TestBounds(t *testing.T) {
	for wire := -20; wire < 40; wire++ {
		for _, number := range []int{-2, -1, 0, 1, 2, most - 1, most, most + 1, most + 2} {
			one := ptag.Tag{Number: number, Wire: wire}
			if slices.Contains(wires, wire) && number >= 1 && number <= most {
				wantTag(t, one, bytesOf(one))
			} else {
				wantNone(t, one)
			}
		}
	}
}

// 16.1: behind no bytes, and behind some, stand the tag's bytes; none stand there, if it is no tag.
func TestPutBehind(t *testing.T) {
	for _, b := range [][]byte{nil, {}, {0}, {10}, {127}, {128}, {255}, []byte("abc"), bytes.Repeat([]byte{200}, 100)} {
		for _, one := range tags() {
			if got, want := ptag.Put(b, one), string(b)+bytesOf(one); string(got) != want {
				t.Errorf("Put(%q, %v): %q, want %q", b, one, got, want)
			}
		}
		for _, one := range noTags() {
			if got := ptag.Put(b, one); string(got) != string(b) {
				t.Errorf("Put(%q, %v): %q", b, one, got)
			}
		}
	}
}

// 16.1: tags are put one behind the other, and what is none is left out.
func TestPutOnAndOn(t *testing.T) {
	var got []byte
	for _, one := range []ptag.Tag{{1, 2}, {}, {16, 0}, {1, 3}, {0, 1}, {most, 5}, {most + 1, 5}, {2, 1}, {-1, 0}} {
		got = ptag.Put(got, one)
	}
	if want := "\x0a\x80\x01\xfd\xff\xff\xff\x0f\x11"; string(got) != want {
		t.Errorf("%q, want %q", got, want)
	}
}

// some are tags of each number of bytes, and what is none.
var some = []ptag.Tag{{1, 0}, {1, 2}, {16, 1}, {2048, 5}, {262144, 0}, {most, 5}, {0, 2}, {1, 3}, {most + 1, 0}, {-1, 5}}

// behind tells a tag's bytes behind others, and these alone, if it is none.
func behind(b string, one ptag.Tag) string {
	if one.May() {
		return b + bytesOf(one)
	}
	return b
}

// 16.1 and R3: a new list: neither b, nor what lies behind its length, is written to, and no answer shares with b, or
// with another answer, also where nothing is put.
func TestPutApart(t *testing.T) {
	const all = "0123456789abcdefghij"
	for _, first := range some {
		for _, second := range some {
			for _, have := range []int{0, 3, 20} {
				whole := []byte(all)
				b := whole[:have]
				one, other := ptag.Put(b, first), ptag.Put(b, second)
				if string(whole) != all {
					t.Errorf("Put of %v, or of %v, writes to what it was handed: %q", first, second, whole)
				}
				if want := behind(all[:have], first); string(one) != want {
					t.Errorf("the first answer changed with the second: %q, want %q", one, want)
				}
				fill(one[:cap(one)], 'x')
				fill(whole, 'y')
				if want := behind(all[:have], second); string(other) != want {
					t.Errorf("the second answer changed with the first, or with b: %q, want %q", other, want)
				}
				fill(other[:cap(other)], 'z')
				if want := strings.Repeat("y", len(all)); string(whole) != want {
					t.Errorf("what was handed in changed with an answer: %q", whole)
				}
			}
		}
	}
}

// fill lays one byte at each place.
func fill(list []byte, b byte) {
	for i := range list {
		list[i] = b
	}
}

// 16.1 and R3: what lay behind b's length is not handed out behind the answer's.
func TestPutHidesRest(t *testing.T) {
	for _, have := range []int{0, 2, 63} {
		whole := bytes.Repeat([]byte{'s'}, 64)
		for _, one := range some {
			got := ptag.Put(whole[:have], one)
			if rest := got[len(got):cap(got)]; bytes.Contains(rest, []byte{'s'}) {
				t.Errorf("Put of %v hands out %q", one, rest)
			}
		}
	}
}

// wantRead reads a tag of s, behind the bytes ahead and before those behind.
func wantRead(t *testing.T, ahead, s, behind string, want ptag.Tag) {
	t.Helper()
	c := cursor.New(ahead + s + behind)
	c.Take(len(ahead))
	got := ptag.Read(c)
	if got != want || c.Err() != api.OK || c.At() != len(ahead)+len(s) || c.Left() != len(behind) {
		t.Errorf("%q between %q and %q: %v, at %d, left %d, error %d; want %v", s, ahead, behind, got, c.At(), c.Left(), c.Err(), want)
	}
}

// wantFail reads of s, behind the bytes ahead, what is no tag.
func wantFail(t *testing.T, ahead, s string, want api.Code) {
	t.Helper()
	c := cursor.New(ahead + s)
	c.Take(len(ahead))
	got := ptag.Read(c)
	if got.Number != 0 || got.Wire != 0 || c.Err() != want || c.End() != want {
		t.Errorf("%q behind %q: %v, error %d; want none, error %d", s, ahead, got, c.Err(), want)
	}
}

// 16.2: tags of bytes that are written out.
func TestReadWritten(t *testing.T) {
	for _, one := range written {
		want := ptag.Tag{Number: one.number, Wire: one.wire}
		wantRead(t, "", one.s, "", want)
		wantRead(t, "\x0b", one.s, "\x96\x01", want)
	}
}

// 16.2: any tag is read of its bytes, which the cursor goes past, and not past what stands behind.
func TestRead(t *testing.T) {
	for _, ahead := range []string{"", "\x00", "\x0a", "\x80", "abc"} {
		for _, behind := range []string{"", "\x00", "\x01", "\x0a", "\x80", "\xff", "abcdefghijkl"} {
			for _, one := range tags() {
				wantRead(t, ahead, bytesOf(one), behind, one)
				wantRead(t, ahead, string(ptag.Put(nil, one)), behind, one)
			}
		}
	}
}

// 16.2: tags by chance, the same ones each time, of what Put laid.
func TestReadOfChance(t *testing.T) {
	chance := rand.New(rand.NewSource(17))
	for range 5000 {
		one := ptag.Tag{Number: 1 + chance.Intn(most), Wire: wires[chance.Intn(4)]}
		wantRead(t, "x", string(ptag.Put(nil, one)), "y", one)
	}
}

// wantOf reads of the bytes of a number, with any bits that are 0 alone at their end, and holds the answer against the
// number's eighth part, and what is left of it.
func wantOf(t *testing.T, u uint64) {
	t.Helper()
	number, wire := new(big.Int).DivMod(new(big.Int).SetUint64(u), big.NewInt(8), new(big.Int))
	s := lay(new(big.Int).SetUint64(u))
	is := number.Sign() > 0 && number.Cmp(big.NewInt(most)) <= 0 && slices.Contains(wires, int(wire.Int64()))
	for count := len(s); count <= 10; count++ {
		one := s
		if count > len(s) {
			one = longer(s, count)
		}
		if is {
			wantRead(t, "", one, "z", ptag.Tag{Number: int(number.Int64()), Wire: int(wire.Int64())})
		} else {
			wantFail(t, "", one, api.ErrWire)
			wantFail(t, "z", one+"\x0a", api.ErrWire)
		}
	}
}

// 16.2: of each number up to two bytes, and of those around each power of two, a tag or ErrWire.
func TestReadOfNumbers(t *testing.T) {
	for u := range uint64(1 << 14) {
		wantOf(t, u)
	}
	for i := range 64 {
		for off := range uint64(40) {
			wantOf(t, uint64(1)<<i+off)
			wantOf(t, uint64(1)<<i-off)
		}
	}
	wantOf(t, math.MaxUint64)
	wantOf(t, 0xaaaaaaaaaaaaaaaa)
	wantOf(t, 0x5555555555555555)
}

// 16.2: bytes written out whose number has no tag: of another wire type, of the number 0, or of one beyond the greatest.
func TestReadNoTag(t *testing.T) {
	for _, s := range []string{
		"\x0b", "\x0c", "\x0e", "\x0f", "\x13", "\x7b", "\x7c", "\x7e", "\x7f", "\x83\x01", "\x84\x01", "\x86\x01", "\x87\x01", "\xff\x7f",
		"\xfb\xff\xff\xff\x0f", "\xfc\xff\xff\xff\x0f", "\xfe\xff\xff\xff\x0f", "\xff\xff\xff\xff\x0f",
		"\x00", "\x01", "\x02", "\x03", "\x04", "\x05", "\x06", "\x07",
		"\x80\x80\x80\x80\x10", "\x81\x80\x80\x80\x10", "\x82\x80\x80\x80\x10", "\x85\x80\x80\x80\x10", "\x8a\x80\x80\x80\x10", "\xfa\xff\xff\xff\x1f",
		"\x8a\x80\x80\x80\x80\x01", "\x8a\x80\x80\x80\x80\x80\x80\x80\x20", "\x8a\x80\x80\x80\x80\x80\x80\x80\x80\x01",
		"\xf8\xff\xff\xff\xff\xff\xff\xff\xff\x01", "\xff\xff\xff\xff\xff\xff\xff\xff\xff\x01",
	} {
		for _, ahead := range []string{"", "\x0a", "\x80"} {
			for _, behind := range []string{"", "\x00", "\x0a", "\xff"} {
				wantFail(t, ahead, s+behind, api.ErrWire)
			}
		}
	}
}

// 16.2 and 3.2: bits that are 0 alone may stand at the end, up to the tenth byte; what they make is checked all the same.
func TestReadWithZeros(t *testing.T) {
	wantRead(t, "", "\x8a\x00", "", ptag.Tag{Number: 1, Wire: 2})
	wantRead(t, "", "\x8a\x80\x80\x80\x80\x80\x80\x80\x80\x00", "\x00", ptag.Tag{Number: 1, Wire: 2})
	wantRead(t, "", "\x85\x81\x00", "", ptag.Tag{Number: 16, Wire: 5})
	wantRead(t, "", "\xfd\xff\xff\xff\x8f\x00", "", ptag.Tag{Number: most, Wire: 5})
	for _, s := range []string{"\x80\x00", "\x82\x00", "\x8b\x00", "\x8f\x80\x80\x80\x80\x80\x80\x80\x80\x00", "\xfd\xff\xff\xff\x9f\x00"} {
		wantFail(t, "", s, api.ErrWire)
	}
	for _, one := range tags() {
		s := bytesOf(one)
		for count := len(s) + 1; count <= 10; count++ {
			wantRead(t, "", longer(s, count), "", one)
			wantRead(t, "x", longer(s, count), "\x0a", one)
		}
		for count := 11; count <= 12; count++ {
			wantFail(t, "", longer(s, count), api.ErrRange)
		}
	}
}

// nines are texts of nine bytes of 128 or more.
var nines = []string{
	"\x80\x80\x80\x80\x80\x80\x80\x80\x80",
	"\x8a\x80\x80\x80\x80\x80\x80\x80\x80",
	"\xff\xff\xff\xff\xff\xff\xff\xff\xff",
	"\x8b\xff\x81\xfe\xaa\xd5\x80\xff\x80",
}

// 16.2 and 3.2: nine bytes of 128 or more and a tenth above 1 are too great, whatever tag their lowest bits would make.
func TestReadTooGreat(t *testing.T) {
	for _, nine := range nines {
		for tenth := 2; tenth < 256; tenth++ {
			for _, behind := range []string{"", "\x00", "\x0a", "\x80"} {
				wantFail(t, "", nine+string([]byte{byte(tenth)})+behind, api.ErrRange)
				wantFail(t, "\x0a", nine+string([]byte{byte(tenth)})+behind, api.ErrRange)
			}
		}
	}
	wantFail(t, "", strings.Repeat("\x8a", 100000), api.ErrRange)
}

// 16.2 and 3.2: bytes that end ahead of the number's end are ErrCut, whatever tag the bits up to there would make.
func TestReadOfTooFew(t *testing.T) {
	for _, ahead := range []string{"", "\x00", "\x0a", "abc"} {
		wantFail(t, ahead, "", api.ErrCut)
		for b := 128; b < 256; b++ {
			wantFail(t, ahead, string([]byte{byte(b)}), api.ErrCut)
		}
		for _, nine := range nines {
			for few := range 10 {
				wantFail(t, ahead, nine[:few], api.ErrCut)
			}
		}
		for _, one := range tags() {
			s := bytesOf(one)
			wantFail(t, ahead, s[:len(s)-1], api.ErrCut)
		}
	}
}

// 16.2: in a part of a cursor a tag is read as in all of it; bytes beyond the part lack, even if the text has them.
func TestReadWithinBounds(t *testing.T) {
	for _, one := range tags() {
		s := bytesOf(one)
		c := cursor.New("a" + s + s + s + "z")
		c.Byte()
		just, more, few := c.Sub(len(s)), c.Sub(len(s)), c.Sub(len(s)-1)
		if got := ptag.Read(just); got != one || just.End() != api.OK || just.At() != 1+len(s) {
			t.Errorf("%v in a part: %v, end %d, at %d", one, got, just.End(), just.At())
		}
		if got := ptag.Read(more); got != one || more.Left() != 0 {
			t.Errorf("%v in a second part: %v, left %d", one, got, more.Left())
		}
		if got := ptag.Read(few); got != (ptag.Tag{}) || few.Err() != api.ErrCut {
			t.Errorf("%v, a byte too few: %v, error %d", one, got, few.Err())
		}
		if c.Err() != api.OK || c.At() != 3*len(s) || c.Left() != 2 {
			t.Errorf("the cursor around these: error %d, at %d, left %d", c.Err(), c.At(), c.Left())
		}
	}
	c := cursor.New("\x0b\x0a")
	part := c.Sub(1)
	if got := ptag.Read(part); got != (ptag.Tag{}) || part.Err() != api.ErrWire || c.Err() != api.OK {
		t.Errorf("no tag in a part: %v, error %d, around it %d", got, part.Err(), c.Err())
	}
	if got := ptag.Read(c); got != (ptag.Tag{Number: 1, Wire: 2}) || c.End() != api.OK {
		t.Errorf("behind that part: %v, end %d", got, c.End())
	}
}

// 16.2: a cursor that has an error keeps it, whatever stands there, and no tag is read.
func TestReadOfFailed(t *testing.T) {
	for _, code := range []api.Code{api.ErrCut, api.ErrTail, api.ErrForm, api.ErrRange, api.ErrNone, api.ErrWire, api.ErrWeight, -1} {
		for _, s := range []string{"", "\x00", "\x0a", "\x0b", "\x80", "\x80\x01", "\xfd\xff\xff\xff\x0f", "\xff\xff\xff\xff\xff\xff\xff\xff\xff\x02"} {
			c := cursor.New(s)
			c.Fail(code)
			if got := ptag.Read(c); got.Number != 0 || got.Wire != 0 || c.Err() != code || c.At() != 0 || c.Left() != len(s) {
				t.Errorf("%q with error %d: %v, error %d, at %d, left %d", s, code, got, c.Err(), c.At(), c.Left())
			}
		}
	}
}

// 16.2: tags are read one behind the other; behind what was none no tag is read any more, and the first error stays.
func TestReadOnAndOn(t *testing.T) {
	const all = "\x0a\x80\x01\x8d\x00\xfd\xff\xff\xff\x0f\x11"
	c := cursor.New(all)
	for _, want := range []ptag.Tag{{1, 2}, {16, 0}, {1, 5}, {most, 5}, {2, 1}} {
		if got := ptag.Read(c); got != want || c.Err() != api.OK {
			t.Errorf("%v, error %d, want %v", got, c.Err(), want)
		}
	}
	if code := c.End(); code != api.OK {
		t.Error("all of it:", code)
	}
	for s, want := range map[string]api.Code{"": api.ErrCut, "\x0b": api.ErrWire, "\x00": api.ErrWire, nines[1] + "\x02": api.ErrRange} {
		c := cursor.New(all + s + "\x0a\x0a\x0a")
		c.Take(len(all))
		if s == "" {
			c = cursor.New("")
		}
		for range 3 {
			if got := ptag.Read(c); got != (ptag.Tag{}) || c.Err() != want {
				t.Errorf("behind %q: %v, error %d, want %d", s, got, c.Err(), want)
			}
		}
	}
}

// 16.2 and R6: of a cursor that is nil no tag, and no panic.
func TestReadOfNil(t *testing.T) {
	if got := ptag.Read(nil); got != (ptag.Tag{}) {
		t.Error(got)
	}
}
