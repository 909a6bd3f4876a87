package utf_test

import (
	"bytes"
	"math"
	"strconv"
	"strings"
	"testing"
	"unicode/utf8"

	"truchman/utf"
)

// written are characters with their bytes written out: the least and the greatest ones of each number of bytes, those
// around what is none, and others.
var written = []struct {
	r rune
	s string
}{
	{0, "\x00"},
	{1, "\x01"},
	{65, "A"},
	{126, "\x7e"},
	{127, "\x7f"},
	{128, "\xc2\x80"},
	{129, "\xc2\x81"},
	{191, "\xc2\xbf"},
	{192, "\xc3\x80"},
	{233, "\xc3\xa9"},
	{255, "\xc3\xbf"},
	{2046, "\xdf\xbe"},
	{2047, "\xdf\xbf"},
	{2048, "\xe0\xa0\x80"},
	{2049, "\xe0\xa0\x81"},
	{4095, "\xe0\xbf\xbf"},
	{4096, "\xe1\x80\x80"},
	{8364, "\xe2\x82\xac"},
	{53247, "\xec\xbf\xbf"},
	{53248, "\xed\x80\x80"},
	{55294, "\xed\x9f\xbe"},
	{55295, "\xed\x9f\xbf"},
	{57344, "\xee\x80\x80"},
	{57345, "\xee\x80\x81"},
	{65279, "\xef\xbb\xbf"},
	{65533, "\xef\xbf\xbd"},
	{65534, "\xef\xbf\xbe"},
	{65535, "\xef\xbf\xbf"},
	{65536, "\xf0\x90\x80\x80"},
	{65537, "\xf0\x90\x80\x81"},
	{128512, "\xf0\x9f\x98\x80"},
	{262143, "\xf0\xbf\xbf\xbf"},
	{262144, "\xf1\x80\x80\x80"},
	{1048575, "\xf3\xbf\xbf\xbf"},
	{1048576, "\xf4\x80\x80\x80"},
	{1114110, "\xf4\x8f\xbf\xbe"},
	{1114111, "\xf4\x8f\xbf\xbf"},
}

// none are numbers that are no characters: those next to characters, those that would look like one cut to fewer bits,
// the least and the greatest.
var none = []rune{
	-1, -2, -65, -128, -129, -8364, -55296, -57344, -65536, -1114111, -1114112, math.MinInt32, math.MinInt32 + 1, math.MinInt32 + 65,
	55296, 55297, 56319, 56320, 57342, 57343,
	1114112, 1114113, 1 << 21, 1<<21 - 1, 1<<21 + 65, 1<<24 + 65, 1<<26 + 8364, 1 << 30, math.MaxInt32 - 1, math.MaxInt32,
}

// wrong are bytes at whose beginning no character begins.
var wrong = []string{
	// A byte that follows none.
	"\x80", "\x81", "\x9f", "\xa0", "\xbf", "\x80\x80", "\xbf\xbf\xbf\xbf", "\x82\xac", "\x80A",
	// Bytes that lack at the end, or where others stand.
	"\xc2", "\xdf", "\xe0", "\xe2", "\xe2\x82", "\xe0\xa0", "\xed\x9f", "\xef\xbf", "\xf0", "\xf0\x90", "\xf0\x90\x80", "\xf4\x8f\xbf",
	"\xc2A", "\xc2\x7f", "\xc2\x00", "\xc2\xc0", "\xc2\xff", "\xc2\xc2\x80", "\xc2\xe2\x82\xac",
	"\xe2A\xac", "\xe2\x82A", "\xe2\x82\x7f", "\xe2\x82\xc0", "\xe2\x82\xff", "\xe2\x7f\xac", "\xe2\xc0\xac", "\xe2\xe2\x82\xac", "\xe2\x82\xe2\x82\xac",
	"\xf0A\x98\x80", "\xf0\x9fA\x80", "\xf0\x9f\x98A", "\xf0\x7f\x98\x80", "\xf0\x9f\x7f\x80", "\xf0\x9f\x98\x7f", "\xf0\xc0\x98\x80", "\xf0\x9f\xc0\x80", "\xf0\x9f\x98\xc0", "\xf0\x9f\x98\xff",
	// A character in more bytes than it needs.
	"\xc0\x80", "\xc0\xaf", "\xc1\x81", "\xc1\xbf", "\xe0\x80\x80", "\xe0\x81\x81", "\xe0\x82\x80", "\xe0\x9f\xbf",
	"\xf0\x80\x80\x80", "\xf0\x80\x81\x81", "\xf0\x82\x82\xac", "\xf0\x8f\xbf\xbf", "\xf0\x8d\xa0\x80",
	// The bytes of a number that is no character, and of a pair of such numbers.
	"\xed\xa0\x80", "\xed\xa0\x81", "\xed\xaf\xbf", "\xed\xb0\x80", "\xed\xbf\xbe", "\xed\xbf\xbf", "\xed\xa0\xbd\xed\xb8\x80",
	"\xf4\x90\x80\x80", "\xf4\x90\x80\x81", "\xf4\xbf\xbf\xbf", "\xf5\x80\x80\x80", "\xf7\xbf\xbf\xbf",
	// What would have more than four bytes, or none at all.
	"\xf8\x88\x80\x80\x80", "\xf8\x80\x80\x80\x81", "\xfb\xbf\xbf\xbf\xbf", "\xfc\x84\x80\x80\x80\x80", "\xfd\xbf\xbf\xbf\xbf\xbf",
	"\xfe", "\xff", "\xfe\xff", "\xff\xfe", "\xfe\x83\xbf\xbf\xbf\xbf\xbf", "\xff\x80", "\xf8\x80\x80\x80", "\xff\xbf\xbf\xbf",
}

// patterns are how the bits of a character lie in its bytes: at each x one of them.
var patterns = []struct {
	below   rune
	pattern string
}{
	{128, "0xxxxxxx"},
	{2048, "110xxxxx 10xxxxxx"},
	{65536, "1110xxxx 10xxxxxx 10xxxxxx"},
	{1114112, "11110xxx 10xxxxxx 10xxxxxx 10xxxxxx"},
}

// patternOf tells how a character's bits lie.
func patternOf(r rune) string {
	for _, one := range patterns {
		if r < one.below {
			return one.pattern
		}
	}
	return ""
}

// bytesOf tells a character's bytes by its pattern, into which its bits are written as digits, the last one first.
func bytesOf(r rune) string {
	bits := []byte(patternOf(r))
	digits := strconv.FormatInt(int64(r), 2)
	for i := len(bits) - 1; i >= 0; i-- {
		switch {
		case bits[i] != 'x':
		case digits == "":
			bits[i] = '0'
		default:
			bits[i] = digits[len(digits)-1]
			digits = digits[:len(digits)-1]
		}
	}
	var list []byte
	for one := range strings.FieldsSeq(string(bits)) {
		b, _ := strconv.ParseUint(one, 2, 8)
		list = append(list, byte(b))
	}
	return string(list)
}

// isNone tells whether a number is no character, by the words of 5.1.
func isNone(r rune) bool {
	return r < 0 || r > 1114111 || r >= 55296 && r <= 57343
}

// The bytes that the tests hold the program against are themselves those that are written out, and the library's.
func TestBytesOf(t *testing.T) {
	for _, one := range written {
		if s := bytesOf(one.r); s != one.s || s != string(one.r) {
			t.Errorf("%d: %q, want %q", one.r, s, one.s)
		}
	}
	for _, s := range wrong {
		if r, size := utf8.DecodeRuneInString(s); r != utf8.RuneError || size != 1 {
			t.Errorf("%q: the library finds the character %d", s, r)
		}
	}
}

// 5.1 and 5.2: characters written out, there and back.
func TestWritten(t *testing.T) {
	for _, one := range written {
		if !utf.Is(one.r) {
			t.Errorf("Is(%d): false", one.r)
		}
		if got := utf.Put(nil, one.r); string(got) != one.s {
			t.Errorf("Put(nil, %d): %q, want %q", one.r, got, one.s)
		}
		if r, size := utf.Rune(one.s, 0); r != one.r || size != len(one.s) {
			t.Errorf("Rune(%q, 0): %d, %d; want %d, %d", one.s, r, size, one.r, len(one.s))
		}
		if at := utf.Check(one.s); at != -1 {
			t.Errorf("Check(%q): %d", one.s, at)
		}
		if n := utf.Count(one.s); n != 1 {
			t.Errorf("Count(%q): %d", one.s, n)
		}
	}
}

// 5.1: numbers that are no characters, and those next to them that are.
func TestIsEdges(t *testing.T) {
	for _, r := range none {
		if utf.Is(r) {
			t.Errorf("Is(%d): true", r)
		}
	}
	for _, r := range []rune{0, 127, 128, 2047, 2048, 55295, 57344, 65533, 65534, 65535, 65536, 131070, 131071, 1114110, 1114111} {
		if !utf.Is(r) {
			t.Errorf("Is(%d): false", r)
		}
	}
}

// 5.1: of each number from below 0 to above the greatest character.
func TestIs(t *testing.T) {
	for r := rune(-70000); r < 1200000; r++ {
		if is := utf.Is(r); is == isNone(r) || is != utf8.ValidRune(r) {
			t.Fatalf("Is(%d): %v", r, is)
		}
	}
}

// 5.1: the bytes of each character, behind none and behind some; of what is none b alone.
func TestPutOfEach(t *testing.T) {
	b := []byte("\xffb")
	for r := rune(-3000); r < 1120000; r++ {
		want := ""
		if !isNone(r) {
			want = bytesOf(r)
		}
		if got := utf.Put(nil, r); string(got) != want {
			t.Fatalf("Put(nil, %d): %q, want %q", r, got, want)
		}
		if got := utf.Put(b, r); string(got) != "\xffb"+want {
			t.Fatalf("Put(%q, %d): %q, want %q behind it", b, r, got, want)
		}
	}
}

// 5.1: behind no bytes, and behind some, of any kind, also those that end within a character.
func TestPutBehind(t *testing.T) {
	for _, b := range [][]byte{nil, {}, {0}, {255}, []byte("abc"), []byte("\u20ac"), []byte("\xe2\x82"), bytes.Repeat([]byte{200}, 100)} {
		for _, one := range written {
			want := string(b) + one.s
			if got := utf.Put(b, one.r); string(got) != want {
				t.Errorf("Put(%q, %d): %q, want %q", b, one.r, got, want)
			}
		}
		for _, r := range none {
			if got := utf.Put(b, r); string(got) != string(b) {
				t.Errorf("Put(%q, %d): %q, want b alone", b, r, got)
			}
		}
	}
}

// 5.1: characters are put one behind the other.
func TestPutOnAndOn(t *testing.T) {
	var b []byte
	for _, r := range []rune{97, 8364, -1, 128512, 55296, 233, 0, 1114112, 98} {
		b = utf.Put(b, r)
	}
	if string(b) != "a\u20ac\U0001f600\u00e9\x00b" {
		t.Errorf("%q", b)
	}
}

// 5.1 and R3: a new list: neither b, nor what lies behind its length, is written to, and no answer shares with b, or
// with another answer, no matter whether there is a character to lay.
func TestPutApart(t *testing.T) {
	const all = "ghijklmnopqrstuvwxyz"
	for _, r := range []rune{65, 233, 8364, 128512, -1, 55296, 1114112} {
		for have := range len(all) + 1 {
			whole := []byte(all)
			b := whole[:have]
			one, other := utf.Put(b, r), utf.Put(b, 128513)
			if string(whole) != all {
				t.Errorf("Put of %d writes to what it was handed: %q", r, whole)
			}
			want := all[:have]
			if utf8.ValidRune(r) {
				want += string(r)
			}
			if string(one) != want {
				t.Errorf("the first answer changed with the second: %q, want %q", one, want)
			}
			for i := range one {
				one[i] = 'x'
			}
			if string(whole) != all {
				t.Errorf("the answer to %d shares with b: %q", r, whole)
			}
			_ = append(one, "xxxx"...)
			for i := range whole {
				whole[i] = 'y'
			}
			if string(other) != all[:have]+"\U0001f601" {
				t.Errorf("the second answer changed with the first, or with b: %q", other)
			}
		}
	}
}

// 5.1 and R3: what lay behind b's length is neither written to nor handed out behind the answer's.
func TestPutHidesRest(t *testing.T) {
	whole := bytes.Repeat([]byte{'s'}, 64)
	for _, r := range []rune{65, 233, 8364, 128512, -1} {
		got := utf.Put(whole[:2], r)
		if rest := got[len(got):cap(got)]; bytes.Contains(rest, []byte{'s'}) {
			t.Errorf("Put of %d hands out %q", r, rest)
		}
		_ = append(got, 'y')
		if string(whole) != strings.Repeat("s", 64) {
			t.Errorf("the answer to %d lies ahead of b's rest: %q", r, whole)
		}
	}
}

// wantRune reads at a place the character r of size bytes.
func wantRune(t *testing.T, s string, at int, r rune, size int) {
	if gotR, gotSize := utf.Rune(s, at); gotR != r || gotSize != size {
		t.Helper() // asked for just here, since it takes long
		t.Fatalf("Rune(%q, %d): %d, %d; want %d, %d", s, at, gotR, gotSize, r, size)
	}
}

// 5.2: each character comes back of its bytes, at their first one, whatever stands ahead and behind; in its midst
// there is none, and ahead of its last byte it is none yet.
func TestRuneOfEach(t *testing.T) {
	for r := rune(0); r <= 1114111; r++ {
		if isNone(r) {
			continue
		}
		s := bytesOf(r)
		wantRune(t, s, 0, r, len(s))
		between := "\xe2\x82" + s + "\x80"
		wantRune(t, between, 2, r, len(s))
		for i := 1; i < len(s); i++ {
			wantRune(t, between, 2+i, 0, 0)
			wantRune(t, s[:i], 0, 0, 0)
		}
	}
}

// 5.2: any bytes may stand around a character, and it counts alone.
func TestRuneBetween(t *testing.T) {
	around := append([]string{"", "a", "\u00e9", "\u20ac", "\U0001f600"}, wrong...)
	for _, one := range written {
		for _, ahead := range around {
			for _, behind := range around {
				wantRune(t, ahead+one.s+behind, len(ahead), one.r, len(one.s))
			}
		}
	}
}

// 5.2: a place below 0, at the length, and behind it.
func TestRuneOutside(t *testing.T) {
	for _, s := range []string{"", "a", "abc", "\u20ac", "a\U0001f600", "\x00", "\xff"} {
		for _, at := range []int{-1, -2, -len(s), -4, math.MinInt, math.MinInt + 1, len(s), len(s) + 1, len(s) + 4, math.MaxInt, math.MaxInt - 1, math.MaxInt - 3} {
			wantRune(t, s, at, 0, 0)
		}
	}
}

// 5.2: each place of a text has the character that begins there, or none.
func TestRuneAtEachPlace(t *testing.T) {
	const s = "a\u00e9\u20ac\U0001f600\x00\xffz"
	want := map[int]struct {
		r    rune
		size int
	}{0: {'a', 1}, 1: {233, 2}, 3: {8364, 3}, 6: {128512, 4}, 10: {0, 1}, 12: {'z', 1}}
	for at := -1; at <= len(s)+1; at++ {
		wantRune(t, s, at, want[at].r, want[at].size)
	}
}

// asLibrary holds what stands at the beginning of s against the library's reading.
func asLibrary(t *testing.T, s string) {
	r, size := utf8.DecodeRuneInString(s)
	if r == utf8.RuneError && size <= 1 {
		r, size = 0, 0
	}
	wantRune(t, s, 0, r, size)
	if at := utf.Check(s); (at == -1) != utf8.ValidString(s) {
		t.Fatalf("Check(%q): %d", s, at)
	}
	want := -1
	if utf8.ValidString(s) {
		want = utf8.RuneCountInString(s)
	}
	if n := utf.Count(s); n != want {
		t.Fatalf("Count(%q): %d, want %d", s, n, want)
	}
}

// 5.2: each text of no, one and two bytes, and those of three and four in which edges follow.
func TestFewBytes(t *testing.T) {
	asLibrary(t, "")
	edges := []byte{0, 1, 0x3f, 0x40, 0x7f, 0x80, 0x81, 0x8f, 0x90, 0x9f, 0xa0, 0xaf, 0xb0, 0xbf, 0xc0, 0xc2, 0xd0, 0xe2, 0xf0, 0xff}
	for a := range 256 {
		asLibrary(t, string([]byte{byte(a)}))
		for b := range 256 {
			asLibrary(t, string([]byte{byte(a), byte(b)}))
			for _, c := range edges {
				asLibrary(t, string([]byte{byte(a), byte(b), c}))
				if a < 0xc0 {
					continue
				}
				for _, d := range edges {
					asLibrary(t, string([]byte{byte(a), byte(b), c, d}))
				}
			}
		}
	}
}

// 5.2: bytes that lack at the end, that follow none, that are more than a character needs, or of what is none.
func TestWrong(t *testing.T) {
	for _, s := range wrong {
		wantRune(t, s, 0, 0, 0)
		if at := utf.Check(s); at != 0 {
			t.Errorf("Check(%q): %d, want 0", s, at)
		}
		if n := utf.Count(s); n != -1 {
			t.Errorf("Count(%q): %d, want -1", s, n)
		}
	}
}

// 5.2: what is wrong is found at its first place, behind any characters, and whatever stands behind it.
func TestCheckPlace(t *testing.T) {
	for _, ahead := range []string{"", "a", "\x00", "abc", "\u00e9", "\u20ac", "\U0001f600", "a\u00e9\u20ac\U0001f600b", strings.Repeat("\u20ac", 50)} {
		for _, s := range wrong {
			for _, behind := range []string{"", "a", "\u20ac", "\xff", "\xc0\x80z"} {
				text := ahead + s + behind
				if at := utf.Check(text); at != len(ahead) {
					t.Errorf("Check(%q): %d, want %d", text, at, len(ahead))
				}
				if n := utf.Count(text); n != -1 {
					t.Errorf("Count(%q): %d, want -1", text, n)
				}
				if r, size := utf.Rune(text, len(ahead)); r != 0 || size != 0 {
					t.Errorf("Rune(%q, %d): %d, %d", text, len(ahead), r, size)
				}
			}
		}
	}
}

// 5.2: from character to character: a character's bytes that lack are told at its first byte.
func TestCheckOfParts(t *testing.T) {
	const s = "a\u00e9\u20ac\U0001f600"
	want := []int{-1, -1, 1, -1, 3, 3, -1, 6, 6, 6, -1}
	for n, at := range want {
		if got := utf.Check(s[:n]); got != at {
			t.Errorf("Check(%q): %d, want %d", s[:n], got, at)
		}
	}
	for from, at := range []int{-1, -1, 0, -1, 0, 0, -1, 0, 0, 0, -1} {
		if got := utf.Check(s[from:]); got != at {
			t.Errorf("Check(%q): %d, want %d", s[from:], got, at)
		}
	}
}

// 5.2: how many characters a text has, of any number of bytes each.
func TestCount(t *testing.T) {
	for _, one := range []struct {
		s string
		n int
	}{
		{"", 0}, {"a", 1}, {"\x00", 1}, {"abc", 3}, {"\u00e9", 1}, {"\u20ac", 1}, {"\U0001f600", 1}, {"\ufffd", 1}, {"e\u0301", 2},
		{"a\u00e9\u20ac\U0001f600", 4}, {"\U0001f600\u20ac\u00e9a", 4}, {"\x00\x00\x00", 3}, {"\ufeffa", 2},
		{"\xff", -1}, {"a\xff", -1}, {"\xffa", -1}, {"a\xe2\x82", -1}, {"\u20ac\xac", -1},
	} {
		if n := utf.Count(one.s); n != one.n {
			t.Errorf("Count(%q): %d, want %d", one.s, n, one.n)
		}
	}
}

// longest tells the longest front of s that is right and of at most n bytes, from the longest one on.
func longest(s string, n int) string {
	for i := min(n, len(s)); i > 0; i-- {
		if utf8.ValidString(s[:i]) {
			return s[:i]
		}
	}
	return ""
}

// 5.3: fronts written out.
func TestCutWritten(t *testing.T) {
	const s = "a\u20acb\U0001f600"
	for _, one := range []struct {
		s    string
		n    int
		want string
	}{
		{s, -1, ""}, {s, 0, ""}, {s, 1, "a"}, {s, 2, "a"}, {s, 3, "a"}, {s, 4, "a\u20ac"}, {s, 5, "a\u20acb"},
		{s, 6, "a\u20acb"}, {s, 7, "a\u20acb"}, {s, 8, "a\u20acb"}, {s, 9, s}, {s, 10, s}, {s, 1000, s},
		{s, math.MinInt, ""}, {s, math.MaxInt, s},
		{"", -1, ""}, {"", 0, ""}, {"", 1, ""}, {"", math.MaxInt, ""},
		{"\u00e9", 1, ""}, {"\u00e9", 2, "\u00e9"}, {"\U0001f600", 3, ""}, {"\U0001f600", 4, "\U0001f600"},
		{"\x00\x00", 1, "\x00"},
		{"\xff", 1, ""}, {"a\xffb", 3, "a"}, {"a\xffb", 1, "a"}, {"a\xffb", 0, ""}, {"a\xe2\x82", 3, "a"}, {"a\xe2\x82", 9, "a"},
		{"a\xed\xa0\x80b", 5, "a"}, {"\u20ac\x80\u20ac", 7, "\u20ac"},
	} {
		if got := utf.Cut(one.s, one.n); got != one.want {
			t.Errorf("Cut(%q, %d): %q, want %q", one.s, one.n, got, one.want)
		}
	}
}

// 5.3: at any number of bytes, in texts that are right and in those that are wrong somewhere.
func TestCut(t *testing.T) {
	var texts []string
	for _, one := range written {
		texts = append(texts, one.s, one.s+one.s, "a"+one.s+"b"+one.s)
	}
	for _, s := range wrong {
		texts = append(texts, s, "a"+s, "\u20ac"+s+"b", "a\u00e9\u20ac\U0001f600"+s+"\U0001f600")
	}
	for _, s := range texts {
		for n := -3; n <= len(s)+3; n++ {
			if got, want := utf.Cut(s, n), longest(s, n); got != want {
				t.Errorf("Cut(%q, %d): %q, want %q", s, n, got, want)
			}
		}
		for _, n := range []int{math.MinInt, math.MinInt + 1, math.MaxInt - 1, math.MaxInt} {
			if got, want := utf.Cut(s, n), longest(s, n); got != want {
				t.Errorf("Cut(%q, %d): %q, want %q", s, n, got, want)
			}
		}
	}
}

// 5.2 and 5.3: of each character, one behind the other, and with one byte that is wrong far behind.
func TestMany(t *testing.T) {
	var b []byte
	count := 0
	for r := rune(0); r <= 1114111; r++ {
		if !isNone(r) {
			b = append(b, bytesOf(r)...)
			count++
		}
	}
	s := string(b)
	if at, n := utf.Check(s), utf.Count(s); at != -1 || n != count {
		t.Errorf("Check: %d, Count: %d, want %d", at, n, count)
	}
	if got := utf.Cut(s, len(s)-1); got != s[:len(s)-4] {
		t.Errorf("Cut: %d bytes of %d", len(got), len(s))
	}
	bad := s + "\xff" + s
	if at, n := utf.Check(bad), utf.Count(bad); at != len(s) || n != -1 {
		t.Errorf("Check: %d, Count: %d, want %d and -1", at, n, len(s))
	}
	if got := utf.Cut(bad, len(bad)); got != s {
		t.Errorf("Cut: %d bytes, want %d", len(got), len(s))
	}
}
