package hexa_test

import (
	"bytes"
	"encoding/hex"
	"slices"
	"strings"
	"testing"

	"truchman/api"
	"truchman/hexa"
)

// written are bytes with their digits written out.
var written = []struct{ s, digits string }{
	{"", ""},
	{"\x00", "00"},
	{"\x01", "01"},
	{"\x09", "09"},
	{"\x0a", "0a"},
	{"\x0f", "0f"},
	{"\x10", "10"},
	{"\x1f", "1f"},
	{"\x7f", "7f"},
	{"\x80", "80"},
	{"\x9a", "9a"},
	{"\xa9", "a9"},
	{"\xf0", "f0"},
	{"\xff", "ff"},
	{"\x00\xab", "00ab"},
	{"\xab\x00", "ab00"},
	{"\x00\x00\x00", "000000"},
	{"\x01\x23\x45\x67\x89\xab\xcd\xef", "0123456789abcdef"},
	{"\xfe\xdc\xba\x98\x76\x54\x32\x10", "fedcba9876543210"},
	{"09:AFG/`afg", "30393a4146472f60616667"},
	{"\u0130\ufffd", "c4b0efbfbd"},
}

// each is all of the 256 bytes, one behind the other.
func each() string {
	var list []byte
	for c := range 256 {
		list = append(list, byte(c))
	}
	return string(list)
}

// texts are bytes of many kinds: none, each single one, many, characters and what is none.
func texts() []string {
	list := []string{"", "abc", "00ab", "a\u0130\uff10\U0001f600", "\xff\xfe\xed\xa0\x80", each(), strings.Repeat(each(), 40)}
	for i := range 256 {
		list = append(list, each()[i:i+1], each()[i:])
	}
	return list
}

// 4.1: of each of the 256 bytes: 16 of them are digits, A to F are none.
func TestNibble(t *testing.T) {
	const digits = "0123456789abcdef"
	for c := range 256 {
		at := strings.IndexByte(digits, byte(c))
		if n, is := hexa.Nibble(byte(c)); n != max(0, at) || is != (at >= 0) {
			t.Errorf("Nibble(%d): %d, %v; want %d, %v", c, n, is, max(0, at), at >= 0)
		}
	}
}

// 4.1: digits written out, and what stands next to them.
func TestNibbleEdges(t *testing.T) {
	for _, one := range []struct {
		c  byte
		n  int
		is bool
	}{
		{'/', 0, false}, {'0', 0, true}, {'1', 1, true}, {'9', 9, true}, {':', 0, false},
		{'`', 0, false}, {'a', 10, true}, {'f', 15, true}, {'g', 0, false},
		{'@', 0, false}, {'A', 0, false}, {'F', 0, false}, {'G', 0, false},
		{0, 0, false}, {9, 0, false}, {15, 0, false}, {' ', 0, false}, {'x', 0, false}, {0x7f, 0, false},
		{'0' + 128, 0, false}, {'a' + 128, 0, false}, {255, 0, false},
	} {
		if n, is := hexa.Nibble(one.c); n != one.n || is != one.is {
			t.Errorf("Nibble(%d): %d, %v; want %d, %v", one.c, n, is, one.n, one.is)
		}
	}
}

// 4.2 and 4.3: digits written out, there and back.
func TestWritten(t *testing.T) {
	for _, one := range written {
		if got := hexa.Text(one.s); got != one.digits {
			t.Errorf("Text(%q): %q, want %q", one.s, got, one.digits)
		}
		if got := hexa.Put(nil, one.s); string(got) != one.digits {
			t.Errorf("Put(nil, %q): %q, want %q", one.s, got, one.digits)
		}
		if got, code := hexa.Read(one.digits); got != one.s || code != api.OK {
			t.Errorf("Read(%q): %q, %d; want %q", one.digits, got, code, one.s)
		}
	}
}

// 4.2: of each byte two digits, the first one worth its sixteenth part, the second one what is left.
func TestTextOfEach(t *testing.T) {
	for c := range 256 {
		got := hexa.Text(string([]byte{byte(c)}))
		if len(got) != 2 {
			t.Errorf("Text of %d: %q", c, got)
			continue
		}
		first, _ := hexa.Nibble(got[0])
		second, _ := hexa.Nibble(got[1])
		if first != c/16 || second != c%16 {
			t.Errorf("Text of %d: %q, worth %d and %d", c, got, first, second)
		}
	}
}

// 4.2: of no bytes, each single one, and many, characters or not, against the library's digits.
func TestText(t *testing.T) {
	for _, s := range texts() {
		if got, want := hexa.Text(s), hex.EncodeToString([]byte(s)); got != want {
			t.Errorf("Text(%q): %q, want %q", s, got, want)
		}
	}
}

// 4.2: behind no bytes, and behind some, of any kind, stand the digits.
func TestPutBehind(t *testing.T) {
	for _, b := range [][]byte{nil, {}, {0}, {255}, []byte("abc"), []byte("0"), []byte("\u0130"), bytes.Repeat([]byte{200}, 100)} {
		for _, s := range texts() {
			want := string(b) + hex.EncodeToString([]byte(s))
			if got := hexa.Put(b, s); string(got) != want {
				t.Errorf("Put(%q, %q): %q, want %q", b, s, got, want)
			}
		}
	}
}

// 4.2: digits are put one behind the other.
func TestPutOnAndOn(t *testing.T) {
	got := hexa.Put(hexa.Put(hexa.Put(hexa.Put(nil, "\x00"), "\xab\xcd"), ""), "a")
	if string(got) != "00abcd61" {
		t.Errorf("%q", got)
	}
}

// 4.2 and R3: a new list: neither b, nor what lies behind its length, is written to, and no answer shares with b, or
// with another answer, no matter whether there are digits to lay.
func TestPutApart(t *testing.T) {
	for _, s := range []string{"", "\x00", "\xab\xcd", "\xff\xff\xff\xff"} {
		for _, have := range []int{0, 3, 20} {
			const all = "ghijklmnopqrstuvwxyz"
			whole := []byte(all)
			b := whole[:have]
			one, other := hexa.Put(b, s), hexa.Put(b, strings.ToUpper(s)+"z")
			wantOne, wantOther := all[:have]+hexa.Text(s), all[:have]+hexa.Text(strings.ToUpper(s)+"z")
			if string(whole) != all {
				t.Errorf("Put of %q writes to what it was handed: %q", s, whole)
			}
			if string(one) != wantOne {
				t.Errorf("the first answer changed with the second: %q, want %q", one, wantOne)
			}
			for i := range one {
				one[i] = 'x'
			}
			for i := range whole {
				whole[i] = 'y'
			}
			if string(other) != wantOther {
				t.Errorf("the second answer changed with the first, or with b: %q, want %q", other, wantOther)
			}
		}
	}
}

// 4.2 and R3: without digits to lay the list is a new one, too, and b is not written to by who writes to it.
func TestPutNothingApart(t *testing.T) {
	b := []byte("abc")
	got := hexa.Put(b, "")
	if string(got) != "abc" {
		t.Fatalf("%q", got)
	}
	got[0] = 'x'
	if string(b) != "abc" {
		t.Errorf("the answer is b itself: %q", b)
	}
	_ = append(hexa.Put(b[:1], ""), 'y')
	if string(b) != "abc" {
		t.Errorf("the answer lies ahead of b's rest: %q", b)
	}
}

// 4.2 and R3: what lay behind b's length is not handed out behind the answer's.
func TestPutHidesRest(t *testing.T) {
	whole := bytes.Repeat([]byte{'s'}, 64)
	for _, s := range []string{"", "\x00", "\xab\xcd"} {
		got := hexa.Put(whole[:2], s)
		if rest := got[len(got):cap(got)]; bytes.Contains(rest, []byte{'s'}) {
			t.Errorf("Put of %q hands out %q", s, rest)
		}
	}
}

// wantForm reads what are no bytes' digits.
func wantForm(t *testing.T, s string) {
	t.Helper()
	if got, code := hexa.Read(s); got != "" || code != api.ErrForm {
		t.Errorf("Read(%q): %q, %d; want ErrForm", s, got, code)
	}
}

// 4.3: bytes come back of their digits.
func TestReadBack(t *testing.T) {
	for _, s := range texts() {
		if got, code := hexa.Read(hexa.Text(s)); got != s || code != api.OK {
			t.Errorf("Read(Text(%q)): %q, %d", s, got, code)
		}
	}
}

// 4.3: each text of no, one and two bytes.
func TestReadOfFew(t *testing.T) {
	if got, code := hexa.Read(""); got != "" || code != api.OK {
		t.Errorf("Read of no digits: %q, %d", got, code)
	}
	digits := []byte("0123456789abcdef")
	for a := range 256 {
		wantForm(t, string([]byte{byte(a)}))
		for b := range 256 {
			s := string([]byte{byte(a), byte(b)})
			first, second := slices.Index(digits, byte(a)), slices.Index(digits, byte(b))
			if first < 0 || second < 0 {
				wantForm(t, s)
				continue
			}
			want := string([]byte{byte(16*first + second)})
			if got, code := hexa.Read(s); got != want || code != api.OK {
				t.Errorf("Read(%q): %q, %d; want %q", s, got, code, want)
			}
		}
	}
}

// 4.3: digits of an odd number are no bytes'.
func TestReadOdd(t *testing.T) {
	all := hexa.Text(each())
	for few := 1; few < len(all); few += 2 {
		wantForm(t, all[:few])
		wantForm(t, all[few:])
	}
	wantForm(t, strings.Repeat("0", 100001))
}

// 4.3: one byte that is no digit, at any place, with digits around it, makes all of it none: instead of a digit, and
// as one more of them.
func TestReadNoDigit(t *testing.T) {
	const digits = "00ab12cdef9f"
	for c := range 256 {
		b := byte(c)
		if strings.IndexByte("0123456789abcdef", b) >= 0 {
			continue
		}
		for at := range len(digits) {
			wantForm(t, digits[:at]+string([]byte{b})+digits[at+1:])
			wantForm(t, digits[:at]+string([]byte{b})+digits[at:])
		}
		wantForm(t, digits+string([]byte{b}))
		wantForm(t, digits+string([]byte{b, b}))
	}
}

// 4.3: characters of several bytes are no digits, not even those that are digits elsewhere, or that end in a digit's
// number, or stand for what is no character, at any place and by any number of bytes.
func TestReadCharacters(t *testing.T) {
	const digits = "0123ab"
	for _, s := range []string{
		"\u0130", "\u0161", "\u0230", "\u0366", "\u3030", "\u6161", "\U00010030", "\U00010061", // 0, a, f by their low bytes
		"\u0660", "\u06f9", "\uff10", "\uff19", "\uff21", "\uff41", "\U0001d7d8", // digits of other scripts
		"\u00b2", "\u00bd", "\u0080", "\u00b0", "\u00e1", // digits' bytes and 128
		"\ufffd", "\ufeff", "\u2028", "\xff", "\xc4", "\xed\xa0\xb0", "\xc0\xb0", "\xe0\x80\xb0",
	} {
		for at := range len(digits) + 1 {
			wantForm(t, digits[:at]+s+digits[at:])
			wantForm(t, digits[:at]+s+s+digits[at:])
		}
		wantForm(t, s)
		wantForm(t, s+s)
	}
}

// 4.3: what is written otherwise elsewhere is none: A to F, what stands ahead of digits, or between them.
func TestReadOtherForms(t *testing.T) {
	for _, s := range []string{
		"00AB", "00aB", "00Ab", "AB", "A0", "0A", "0x00", "0X00", "x0", "+0", "-0", "-1ab", " 00", "00 ", "0 00", "0 0",
		"00:0", "00-0", "0_00", "00\n", "00\x00\x00", "\x00\x00", "#00f", "\\x00", "0.", "1e+1", "0g", "g0", "/0", "0:", "`a", "a`",
	} {
		wantForm(t, s)
	}
}

// 4.2 and 4.3: of many bytes, and with one digit that is wrong far behind.
func TestMany(t *testing.T) {
	s := strings.Repeat(each(), 1000)
	digits := hexa.Text(s)
	if digits != hex.EncodeToString([]byte(s)) {
		t.Error("Text of many bytes")
	}
	if got, code := hexa.Read(digits); got != s || code != api.OK {
		t.Error("Read of many bytes:", len(got), code)
	}
	wantForm(t, digits[:len(digits)-1]+"G")
	wantForm(t, "G"+digits[1:])
}
