package word_test

import (
	"bytes"
	"math"
	"math/big"
	"slices"
	"testing"

	"truchman/api"
	"truchman/cursor"
	"truchman/word"
)

// power is 2 to the power of n.
func power(n int) *big.Int {
	return new(big.Int).Lsh(big.NewInt(1), uint(n))
}

// wholes are whole numbers: 0, those around each power of two with both signs, the least and the greatest, and others.
func wholes() []int {
	list := []int{0, 300, -300, 123456789012345678, -123456789012345678, math.MinInt, math.MinInt + 1, math.MaxInt, math.MaxInt - 1}
	for i := range 63 {
		p := 1 << i
		list = append(list, p-1, p, p+1, 1-p, -p, -p-1)
	}
	slices.Sort(list)
	return slices.Compact(list)
}

// numbers are numbers from 0 on: those around each power of two, the greatest, and others.
func numbers() []uint64 {
	list := []uint64{math.MaxUint64, math.MaxUint64 - 1, 0x0102030405060708, 0xf1e2d3c4b5a69788, 0xaaaaaaaaaaaaaaaa, 0x5555555555555555}
	for i := range 64 {
		p := uint64(1) << i
		list = append(list, p-1, p, p+1)
	}
	slices.Sort(list)
	return slices.Compact(list)
}

// 2.1: the numbers that the chapter's words make.
func TestZig(t *testing.T) {
	for _, one := range []struct {
		n int
		u uint64
	}{
		{0, 0}, {-1, 1}, {1, 2}, {-2, 3}, {2, 4}, {-3, 5}, {3, 6}, {-300, 599}, {300, 600},
		{math.MaxInt32, 1<<32 - 2}, {math.MinInt32, 1<<32 - 1},
		{math.MaxInt, math.MaxUint64 - 1}, {math.MinInt, math.MaxUint64},
		{math.MaxInt - 1, math.MaxUint64 - 3}, {math.MinInt + 1, math.MaxUint64 - 2},
	} {
		if u := word.Zig(one.n); u != one.u {
			t.Errorf("Zig(%d): %d, want %d", one.n, u, one.u)
		}
		if n := word.Zag(one.u); n != one.n {
			t.Errorf("Zag(%d): %d, want %d", one.u, n, one.n)
		}
	}
}

// 2.1: twice n, or twice -n less 1, reckoned with numbers that do not go round.
func TestZigOfAny(t *testing.T) {
	for _, n := range wholes() {
		want := new(big.Int).Lsh(big.NewInt(int64(n)), 1)
		if n < 0 {
			want.Neg(want)
			want.Sub(want, big.NewInt(1))
		}
		u := word.Zig(n)
		if new(big.Int).SetUint64(u).Cmp(want) != 0 {
			t.Errorf("Zig(%d): %d, want %d", n, u, want)
		}
	}
}

// 2.1: Zag is the other way of Zig, from each side.
func TestZagIsTheOtherWay(t *testing.T) {
	for _, n := range wholes() {
		if got := word.Zag(word.Zig(n)); got != n {
			t.Errorf("Zag(Zig(%d)): %d", n, got)
		}
	}
	for _, u := range numbers() {
		if got := word.Zig(word.Zag(u)); got != u {
			t.Errorf("Zig(Zag(%d)): %d", u, got)
		}
	}
}

// way is one way to lay a number into bytes, and to read it.
type way struct {
	name  string
	count int
	high  bool
	lay   func([]byte, uint64) []byte
	read  func(*cursor.Cursor) uint64
}

func ways() []way {
	return []way{
		{"Low32", 4, false,
			func(b []byte, u uint64) []byte { return word.Low32(b, uint32(u)) },
			func(c *cursor.Cursor) uint64 { return uint64(word.ReadLow32(c)) }},
		{"Low64", 8, false, word.Low64, word.ReadLow64},
		{"High64", 8, true, word.High64, word.ReadHigh64},
	}
}

// bytesOf tells a number's bytes by dividing it.
func (w way) bytesOf(u uint64) []byte {
	var list []byte
	for range w.count {
		list = append(list, byte(u%256))
		u /= 256
	}
	if w.high {
		slices.Reverse(list)
	}
	return list
}

// numbers are those that may be laid this way.
func (w way) numbers() []uint64 {
	return slices.DeleteFunc(numbers(), func(u uint64) bool { return w.count == 4 && u > math.MaxUint32 })
}

// 2.2: bytes written out, each at its place.
func TestLay(t *testing.T) {
	for _, one := range []struct {
		name      string
		got, want []byte
	}{
		{"Low32 of 258", word.Low32(nil, 258), []byte{2, 1, 0, 0}},
		{"Low32", word.Low32(nil, 0xf4e3d2c1), []byte{0xc1, 0xd2, 0xe3, 0xf4}},
		{"Low32 of 0", word.Low32(nil, 0), []byte{0, 0, 0, 0}},
		{"Low32 of the greatest", word.Low32(nil, math.MaxUint32), []byte{255, 255, 255, 255}},
		{"Low64 of 258", word.Low64(nil, 258), []byte{2, 1, 0, 0, 0, 0, 0, 0}},
		{"Low64", word.Low64(nil, 0xf807e605d403c201), []byte{1, 0xc2, 3, 0xd4, 5, 0xe6, 7, 0xf8}},
		{"Low64 of 0", word.Low64(nil, 0), []byte{0, 0, 0, 0, 0, 0, 0, 0}},
		{"Low64 of the greatest", word.Low64(nil, math.MaxUint64), []byte{255, 255, 255, 255, 255, 255, 255, 255}},
		{"High64 of 258", word.High64(nil, 258), []byte{0, 0, 0, 0, 0, 0, 1, 2}},
		{"High64", word.High64(nil, 0xf807e605d403c201), []byte{0xf8, 7, 0xe6, 5, 0xd4, 3, 0xc2, 1}},
		{"High64 of 0", word.High64(nil, 0), []byte{0, 0, 0, 0, 0, 0, 0, 0}},
		{"High64 of the greatest", word.High64(nil, math.MaxUint64), []byte{255, 255, 255, 255, 255, 255, 255, 255}},
	} {
		if !bytes.Equal(one.got, one.want) {
			t.Errorf("%s: %v, want %v", one.name, one.got, one.want)
		}
	}
}

// 2.2: behind no bytes, and behind some, stand the number's bytes, of any number.
func TestLayBehind(t *testing.T) {
	for _, w := range ways() {
		for _, b := range [][]byte{nil, {}, {0}, {255}, []byte("abc"), bytes.Repeat([]byte{7}, 100)} {
			for _, u := range w.numbers() {
				want := append(slices.Clone(b), w.bytesOf(u)...)
				if got := w.lay(b, u); !bytes.Equal(got, want) {
					t.Errorf("%s(%v, %d): %v, want %v", w.name, b, u, got, want)
				}
			}
		}
	}
}

// 2.2 and R3: a new list: neither b, nor what lies behind its length, is written to, and no answer shares with b, or
// with another answer.
func TestLayApart(t *testing.T) {
	for _, w := range ways() {
		for _, have := range []int{0, 3} {
			whole := []byte("0123456789abcdef")
			b := whole[:have]
			one, other := w.lay(b, 0x11223344), w.lay(b, 0x55667788)
			want := append([]byte("0123456789abcdef"[:have]), w.bytesOf(0x11223344)...)
			if string(whole) != "0123456789abcdef" {
				t.Errorf("%s writes to what it was handed: %q", w.name, whole)
			}
			if !bytes.Equal(one, want) {
				t.Errorf("%s: the first answer changed with the second: %v, want %v", w.name, one, want)
			}
			for i := range one {
				one[i] = 'x'
			}
			for i := range whole {
				whole[i] = 'y'
			}
			want = append([]byte("0123456789abcdef"[:have]), w.bytesOf(0x55667788)...)
			if !bytes.Equal(other, want) {
				t.Errorf("%s: the second answer changed with the first, or with b: %v, want %v", w.name, other, want)
			}
		}
	}
}

// 2.2 and R3: what lay behind b's length is not handed out behind the answer's.
func TestLayHidesRest(t *testing.T) {
	for _, w := range ways() {
		whole := bytes.Repeat([]byte{'s'}, 64)
		got := w.lay(whole[:2], 0)
		if rest := got[len(got):cap(got)]; bytes.Contains(rest, []byte{'s'}) {
			t.Errorf("%s hands out %q", w.name, rest)
		}
	}
}

// 2.2: numbers are laid one behind the other.
func TestLayOnAndOn(t *testing.T) {
	got := word.High64(word.Low64(word.Low32(nil, 1), 2), 3)
	want := []byte{1, 0, 0, 0, 2, 0, 0, 0, 0, 0, 0, 0, 0, 0, 0, 0, 0, 0, 0, 3}
	if !bytes.Equal(got, want) {
		t.Errorf("%v, want %v", got, want)
	}
}

// 2.3: bytes written out, each at its place.
func TestRead(t *testing.T) {
	if u := word.ReadLow32(cursor.New("\xc1\xd2\xe3\xf4")); u != 0xf4e3d2c1 {
		t.Errorf("ReadLow32: %x", u)
	}
	if u := word.ReadLow64(cursor.New("\x01\xc2\x03\xd4\x05\xe6\x07\xf8")); u != 0xf807e605d403c201 {
		t.Errorf("ReadLow64: %x", u)
	}
	if u := word.ReadHigh64(cursor.New("\xf8\x07\xe6\x05\xd4\x03\xc2\x01")); u != 0xf807e605d403c201 {
		t.Errorf("ReadHigh64: %x", u)
	}
}

// 2.3: any number is read of its bytes, which the cursor goes past, and not past what stands behind.
func TestReadOfAny(t *testing.T) {
	for _, w := range ways() {
		for _, u := range w.numbers() {
			for _, ahead := range []string{"", "\xff", "abc"} {
				for _, behind := range []string{"", "\x00", "xyz", "0123456789"} {
					c := cursor.New(ahead + string(w.bytesOf(u)) + behind)
					c.Take(len(ahead))
					got := w.read(c)
					if got != u || c.Err() != api.OK || c.At() != len(ahead)+w.count || c.Left() != len(behind) {
						t.Errorf("%s of %d between %q and %q: %d, at %d, left %d, error %d", w.name, u, ahead, behind, got, c.At(), c.Left(), c.Err())
					}
				}
			}
		}
	}
}

// 2.3: numbers are read one behind the other.
func TestReadOnAndOn(t *testing.T) {
	c := cursor.New("\x01\x00\x00\x00\x02\x00\x00\x00\x00\x00\x00\x00\x00\x00\x00\x00\x00\x00\x00\x03")
	if a, b, d := word.ReadLow32(c), word.ReadLow64(c), word.ReadHigh64(c); a != 1 || b != 2 || d != 3 || c.End() != api.OK {
		t.Error(a, b, d, c.End())
	}
}

// 2.3: where bytes lack, 0 and ErrCut, and the cursor stays.
func TestReadOfTooFew(t *testing.T) {
	for _, w := range ways() {
		for few := range w.count {
			for _, ahead := range []string{"", "abc"} {
				c := cursor.New(ahead + "\xff\xff\xff\xff\xff\xff\xff\xff"[:few])
				c.Take(len(ahead))
				if u := w.read(c); u != 0 || c.Err() != api.ErrCut || c.At() != len(ahead) || c.Left() != few {
					t.Errorf("%s of %d bytes: %d, at %d, left %d, error %d", w.name, few, u, c.At(), c.Left(), c.Err())
				}
			}
		}
	}
}

// 2.3: bytes beyond a cursor's own lack, even if the text has them.
func TestReadWithinBounds(t *testing.T) {
	for _, w := range ways() {
		c := cursor.New("\xffabcdefghijklmnop")
		c.Byte()
		enough, few := c.Sub(w.count), c.Sub(w.count-1)
		if u := w.read(enough); u == 0 || enough.End() != api.OK {
			t.Errorf("%s of enough bytes: %d, end %d", w.name, u, enough.End())
		}
		if u := w.read(few); u != 0 || few.Err() != api.ErrCut || few.At() != 1+w.count || few.Left() != w.count-1 {
			t.Errorf("%s of one byte too few: %d, at %d, left %d, error %d", w.name, u, few.At(), few.Left(), few.Err())
		}
	}
}

// 2.3: a cursor that has an error keeps it, and stays, whether bytes lack or not.
func TestReadOfFailed(t *testing.T) {
	for _, w := range ways() {
		for _, code := range []api.Code{api.ErrTail, api.ErrForm, api.ErrNone, api.ErrWeight} {
			for _, s := range []string{"", "abc", "abcdefghijkl"} {
				c := cursor.New(s)
				at := min(1, len(s))
				c.Take(at)
				c.Fail(code)
				if u := w.read(c); u != 0 || c.Err() != code || c.At() != at || c.Left() != len(s)-at {
					t.Errorf("%s of %q with error %d: %d, at %d, left %d, error %d", w.name, s, code, u, c.At(), c.Left(), c.Err())
				}
			}
		}
	}
}

// 2.3: behind a reading that failed nothing is read any more, even if fewer bytes would do.
func TestReadBehindFailure(t *testing.T) {
	c := cursor.New("\x01\x02\x03\x04\x05")
	if u := word.ReadLow64(c); u != 0 || c.Err() != api.ErrCut {
		t.Error(u, c.Err())
	}
	if u := word.ReadLow32(c); u != 0 || c.Err() != api.ErrCut || c.At() != 0 {
		t.Error(u, c.Err(), c.At())
	}
}

// 2.3 and R6: of a cursor that is nil 0, and no panic.
func TestReadOfNil(t *testing.T) {
	for _, w := range ways() {
		if u := w.read(nil); u != 0 {
			t.Errorf("%s: %d", w.name, u)
		}
	}
}

// 2.4: below 2^31 the number itself, from there on less 2^32.
func TestSigned(t *testing.T) {
	for _, one := range []struct {
		u uint32
		n int
	}{
		{0, 0}, {1, 1}, {2, 2}, {300, 300}, {1<<31 - 2, 1<<31 - 2}, {1<<31 - 1, 1<<31 - 1},
		{1 << 31, -1 << 31}, {1<<31 + 1, -1<<31 + 1}, {math.MaxUint32 - 299, -300}, {math.MaxUint32 - 1, -2}, {math.MaxUint32, -1},
	} {
		if n := word.Signed(one.u); n != one.n {
			t.Errorf("Signed(%d): %d, want %d", one.u, n, one.n)
		}
	}
}

// wide tells what Wide must tell of 1 to 64 bits, reckoned with numbers that do not go round.
func wide(u uint64, bits int) int {
	n := new(big.Int).SetUint64(u)
	n.Mod(n, power(bits))
	if n.Cmp(power(bits-1)) >= 0 {
		n.Sub(n, power(bits))
	}
	return int(n.Int64())
}

// 2.4: Wide of bits written out.
func TestWide(t *testing.T) {
	for _, one := range []struct {
		u    uint64
		bits int
		n    int
	}{
		{0, 1, 0}, {1, 1, -1}, {2, 1, 0}, {3, 1, -1},
		{0, 2, 0}, {1, 2, 1}, {2, 2, -2}, {3, 2, -1}, {4, 2, 0},
		{127, 8, 127}, {128, 8, -128}, {255, 8, -1}, {256, 8, 0}, {0x17f, 8, 127}, {0xff80, 8, -128},
		{0x7fff, 16, 32767}, {0x8000, 16, -32768}, {0xffff, 16, -1},
		{1<<31 - 1, 32, math.MaxInt32}, {1 << 31, 32, math.MinInt32}, {1<<32 - 1, 32, -1}, {1 << 32, 32, 0},
		{1<<62 - 1, 63, 1<<62 - 1}, {1 << 62, 63, -1 << 62}, {1 << 63, 63, 0},
		{1<<63 - 1, 64, math.MaxInt}, {1 << 63, 64, math.MinInt}, {math.MaxUint64, 64, -1}, {0, 64, 0},
	} {
		if n := word.Wide(one.u, one.bits); n != one.n {
			t.Errorf("Wide(%d, %d): %d, want %d", one.u, one.bits, n, one.n)
		}
	}
}

// 2.4: Wide of any bits; those above do not matter.
func TestWideOfAny(t *testing.T) {
	for bits := 1; bits <= 64; bits++ {
		for _, u := range numbers() {
			if n, want := word.Wide(u, bits), wide(u, bits); n != want {
				t.Errorf("Wide(%d, %d): %d, want %d", u, bits, n, want)
			}
		}
	}
}

// badCounts are counts of bits below 1 and above 64.
var badCounts = []int{math.MinInt, math.MinInt + 1, -64, -63, -2, -1, 0, 65, 66, 127, 128, 129, 1 << 32, 1<<32 + 8, math.MaxInt - 1, math.MaxInt}

// 2.4: of another count Wide is 0, and Fit ErrArg, whatever the number is.
func TestBadCounts(t *testing.T) {
	for _, bits := range badCounts {
		for _, u := range numbers() {
			if n := word.Wide(u, bits); n != 0 {
				t.Errorf("Wide(%d, %d): %d", u, bits, n)
			}
		}
		for _, n := range wholes() {
			if u, code := word.Fit(n, bits); u != 0 || code != api.ErrArg {
				t.Errorf("Fit(%d, %d): %d, %d", n, bits, u, code)
			}
		}
	}
}

// 2.4: Fit of numbers written out.
func TestFit(t *testing.T) {
	for _, one := range []struct {
		n, bits int
		u       uint64
		code    api.Code
	}{
		{0, 1, 0, api.OK}, {-1, 1, 1, api.OK}, {1, 1, 0, api.ErrRange}, {-2, 1, 0, api.ErrRange},
		{1, 2, 1, api.OK}, {-2, 2, 2, api.OK}, {-1, 2, 3, api.OK}, {2, 2, 0, api.ErrRange}, {-3, 2, 0, api.ErrRange},
		{-1, 8, 255, api.OK}, {127, 8, 127, api.OK}, {-128, 8, 128, api.OK}, {128, 8, 0, api.ErrRange}, {-129, 8, 0, api.ErrRange},
		{255, 8, 0, api.ErrRange}, {256, 8, 0, api.ErrRange}, {-256, 8, 0, api.ErrRange},
		{math.MaxInt32, 32, 1<<31 - 1, api.OK}, {math.MinInt32, 32, 1 << 31, api.OK},
		{math.MaxInt32 + 1, 32, 0, api.ErrRange}, {math.MinInt32 - 1, 32, 0, api.ErrRange},
		{math.MaxInt, 64, 1<<63 - 1, api.OK}, {math.MinInt, 64, 1 << 63, api.OK}, {-1, 64, math.MaxUint64, api.OK},
		{math.MaxInt, 63, 0, api.ErrRange}, {math.MinInt, 63, 0, api.ErrRange},
		{math.MaxInt, 1, 0, api.ErrRange}, {math.MinInt, 1, 0, api.ErrRange},
	} {
		if u, code := word.Fit(one.n, one.bits); u != one.u || code != one.code {
			t.Errorf("Fit(%d, %d): %d, %d, want %d, %d", one.n, one.bits, u, code, one.u, one.code)
		}
	}
}

// 2.4: of each count of bits the least and the greatest number fit, and those beyond do not; Fit and Wide are each
// other's way back, within so many bits.
func TestFitOfAny(t *testing.T) {
	for bits := 1; bits <= 64; bits++ {
		least, above := new(big.Int).Neg(power(bits-1)), power(bits-1)
		for _, n := range wholes() {
			whole := big.NewInt(int64(n))
			fits := whole.Cmp(least) >= 0 && whole.Cmp(above) < 0
			u, code := word.Fit(n, bits)
			if !fits {
				if u != 0 || code != api.ErrRange {
					t.Errorf("Fit(%d, %d): %d, %d", n, bits, u, code)
				}
				continue
			}
			if code != api.OK || new(big.Int).SetUint64(u).Cmp(power(bits)) >= 0 || wide(u, bits) != n || word.Wide(u, bits) != n {
				t.Errorf("Fit(%d, %d): %d, %d", n, bits, u, code)
			}
		}
	}
}

// 2.4: of few bits each number fits that is Wide of some, and no other one.
func TestFitOfFewBits(t *testing.T) {
	for bits := 1; bits <= 10; bits++ {
		of := map[int]uint64{}
		for u := range uint64(1) << bits {
			of[word.Wide(u, bits)] = u
		}
		if len(of) != 1<<bits {
			t.Errorf("%d bits are only %d numbers", bits, len(of))
		}
		for n := -2048; n <= 2048; n++ {
			want, is := of[n]
			u, code := word.Fit(n, bits)
			if u != want || (code == api.OK) != is || !is && code != api.ErrRange {
				t.Errorf("Fit(%d, %d): %d, %d", n, bits, u, code)
			}
		}
	}
}
