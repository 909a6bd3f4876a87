package jstring_test

import (
	"bytes"
	"encoding/json"
	"fmt"
	"regexp"
	"strconv"
	"strings"
	"testing"
	"unicode/utf16"
	"unicode/utf8"

	"truchman/api"
	"truchman/cursor"
	"truchman/jstring"
)

// written are texts' JSON, with the bytes for which it stands written out.
var written = []struct {
	s, want string
}{
	// The chapter's examples.
	{`"\u20ac"`, "\xe2\x82\xac"},
	{`"\ud83d\ude00"`, "\xf0\x9f\x98\x80"},
	// What stands for itself.
	{`""`, ""},
	{`"a"`, "a"},
	{`"abc def"`, "abc def"},
	{`" "`, "\x20"},
	{`"!"`, "\x21"},
	{`"#"`, "\x23"},
	{`"/"`, "\x2f"},
	{`"'"`, "\x27"},
	{`"["`, "\x5b"},
	{`"]"`, "\x5d"},
	{`"u0041"`, "u0041"},
	{`"{\"a\":[1,null]}"`, `{"a":[1,null]}`},
	{"\"\x7e\"", "\x7e"},
	{"\"\x7f\"", "\x7f"},
	{"\"\xc2\x80\"", "\xc2\x80"},
	{"\"\xdf\xbf\"", "\xdf\xbf"},
	{"\"\xe0\xa0\x80\"", "\xe0\xa0\x80"},
	{"\"\xe2\x82\xac\"", "\xe2\x82\xac"},
	{"\"\xed\x9f\xbf\"", "\xed\x9f\xbf"},
	{"\"\xee\x80\x80\"", "\xee\x80\x80"},
	{"\"\xef\xbb\xbf\"", "\xef\xbb\xbf"},
	{"\"\xef\xbf\xbd\"", "\xef\xbf\xbd"},
	{"\"\xef\xbf\xbf\"", "\xef\xbf\xbf"},
	{"\"\xf0\x90\x80\x80\"", "\xf0\x90\x80\x80"},
	{"\"\xf4\x8f\xbf\xbf\"", "\xf4\x8f\xbf\xbf"},
	{"\"\xc2\x80\xe0\xa0\x80\xf0\x90\x80\x80\x7f\"", "\xc2\x80\xe0\xa0\x80\xf0\x90\x80\x80\x7f"},
	// \ with one byte behind it.
	{`"\""`, "\x22"},
	{`"\\"`, "\x5c"},
	{`"\/"`, "\x2f"},
	{`"\b"`, "\x08"},
	{`"\f"`, "\x0c"},
	{`"\n"`, "\x0a"},
	{`"\r"`, "\x0d"},
	{`"\t"`, "\x09"},
	{`"\"\\\/\b\f\n\r\t"`, "\x22\x5c\x2f\x08\x0c\x0a\x0d\x09"},
	{`"\\n"`, `\n`},
	{`"\\\n"`, "\\\n"},
	{`"\\\\"`, `\\`},
	{`"\\u0041"`, `\u0041`},
	{`"a\nb"`, "a\nb"},
	// \u with the digits of a character's number.
	{`"\u0000"`, "\x00"},
	{`"\u001f"`, "\x1f"},
	{`"\u001F"`, "\x1f"},
	{`"\u0022"`, "\x22"},
	{`"\u0041"`, "A"},
	{`"\u005c"`, "\x5c"},
	{`"\u005C"`, "\x5c"},
	{`"\u007f"`, "\x7f"},
	{`"\u0080"`, "\xc2\x80"},
	{`"\u07ff"`, "\xdf\xbf"},
	{`"\u07FF"`, "\xdf\xbf"},
	{`"\u0800"`, "\xe0\xa0\x80"},
	{`"\u20AC"`, "\xe2\x82\xac"},
	{`"\u20aC"`, "\xe2\x82\xac"},
	{`"\uabcd"`, "\xea\xaf\x8d"},
	{`"\uABCD"`, "\xea\xaf\x8d"},
	{`"\uAbCd"`, "\xea\xaf\x8d"},
	{`"\ud7ff"`, "\xed\x9f\xbf"},
	{`"\uD7FF"`, "\xed\x9f\xbf"},
	{`"\ue000"`, "\xee\x80\x80"},
	{`"\uE000"`, "\xee\x80\x80"},
	{`"\ufeff"`, "\xef\xbb\xbf"},
	{`"\ufffd"`, "\xef\xbf\xbd"},
	{`"\uffff"`, "\xef\xbf\xbf"},
	{`"\uFFFF"`, "\xef\xbf\xbf"},
	{`"\u00411"`, "A1"},
	{`"\u0041\u0042"`, "AB"},
	{`"\u0022\u005cn\u0022"`, `"\n"`},
	{`"\u005c\u005c"`, `\\`},
	// Pairs, the least and the greatest of each half.
	{`"\ud800\udc00"`, "\xf0\x90\x80\x80"},
	{`"\ud800\udfff"`, "\xf0\x90\x8f\xbf"},
	{`"\ud801\udc00"`, "\xf0\x90\x90\x80"},
	{`"\udbff\udc00"`, "\xf4\x8f\xb0\x80"},
	{`"\udbff\udfff"`, "\xf4\x8f\xbf\xbf"},
	{`"\uDBFF\uDFFF"`, "\xf4\x8f\xbf\xbf"},
	{`"\uDbfF\udFfF"`, "\xf4\x8f\xbf\xbf"},
	{`"\uD83D\ude00"`, "\xf0\x9f\x98\x80"},
	{`"a\ud83d\ude00b"`, "a\xf0\x9f\x98\x80b"},
	{`"\ud800\udc00\ud800\udc00"`, "\xf0\x90\x80\x80\xf0\x90\x80\x80"},
	{`"\ud800\udc00\u0041"`, "\xf0\x90\x80\x80A"},
	{`"\u20ac\ud800\udc00"`, "\xe2\x82\xac\xf0\x90\x80\x80"},
	// Parts of all kinds, one behind the other.
	{"\"\xc3\xa9\\u00e9\xe2\x82\xac\\u20AC\\n\xf0\x9f\x98\x80\\ud83d\\uDE00 z\"", "\xc3\xa9\xc3\xa9\xe2\x82\xac\xe2\x82\xac\n\xf0\x9f\x98\x80\xf0\x9f\x98\x80 z"},
}

// laid are texts with what Put lays of them, written out.
var laid = []struct {
	s, want string
}{
	{"", `""`},
	{"a", `"a"`},
	{"a\"\n", `"a\"\u000a"`},
	{`"`, `"\""`},
	{`\`, `"\\"`},
	{`\\`, `"\\\\"`},
	{`""`, `"\"\""`},
	{`\"`, `"\\\""`},
	{`\n`, `"\\n"`},
	{`\u0041`, `"\\u0041"`},
	{"/", `"/"`},
	{"'", `"'"`},
	{"<>&", `"<>&"`},
	{"\x00", `"\u0000"`},
	{"\x01", `"\u0001"`},
	{"\x07", `"\u0007"`},
	{"\x08", `"\u0008"`},
	{"\x09", `"\u0009"`},
	{"\x0a", `"\u000a"`},
	{"\x0b", `"\u000b"`},
	{"\x0c", `"\u000c"`},
	{"\x0d", `"\u000d"`},
	{"\x0f", `"\u000f"`},
	{"\x10", `"\u0010"`},
	{"\x19", `"\u0019"`},
	{"\x1a", `"\u001a"`},
	{"\x1f", `"\u001f"`},
	{" ", `" "`},
	{"\x1f ", `"\u001f "`},
	{"\x7e", "\"\x7e\""},
	{"\x7f", "\"\x7f\""},
	{"\xc2\x80", "\"\xc2\x80\""},
	{"\xe2\x82\xac", "\"\xe2\x82\xac\""},
	{"\xe2\x80\xa8\xe2\x80\xa9", "\"\xe2\x80\xa8\xe2\x80\xa9\""},
	{"\xf0\x9f\x98\x80", "\"\xf0\x9f\x98\x80\""},
	{"\x80", "\"\x80\""},
	{"\xff\x00\xc0", "\"\xff\\u0000\xc0\""},
	{"a\x00\x00b", `"a\u0000\u0000b"`},
	{"0000", `"0000"`},
}

// wrong are bytes at whose beginning no right character begins, and none of which is below 32, " or \.
var wrong = []string{
	"\x80", "\x9f", "\xa0", "\xbf", "\x80\x80", "\xbf\xbf\xbf\xbf", "\x82\xac", "\x80A",
	"\xc2", "\xdf", "\xe0", "\xe2", "\xe2\x82", "\xe0\xa0", "\xed\x9f", "\xef\xbf", "\xf0", "\xf0\x90", "\xf0\x90\x80", "\xf4\x8f\xbf",
	"\xc2A", "\xc2\x7f", "\xc2\xc0", "\xc2\xff", "\xc2\xc2\x80", "\xc2\xe2\x82\xac",
	"\xe2A\xac", "\xe2\x82A", "\xe2\x82\x7f", "\xe2\x82\xc0", "\xe2\xe2\x82\xac", "\xe2\x82\xe2\x82\xac",
	"\xf0A\x98\x80", "\xf0\x9fA\x80", "\xf0\x9f\x98A", "\xf0\x9f\x98\x7f", "\xf0\xc0\x98\x80", "\xf0\x9f\x98\xff",
	"\xc0\x80", "\xc0\xaf", "\xc1\xbf", "\xe0\x80\x80", "\xe0\x9f\xbf", "\xf0\x80\x80\x80", "\xf0\x8f\xbf\xbf",
	"\xed\xa0\x80", "\xed\xaf\xbf", "\xed\xb0\x80", "\xed\xbf\xbf", "\xed\xa0\xbd\xed\xb8\x80",
	"\xf4\x90\x80\x80", "\xf5\x80\x80\x80", "\xf7\xbf\xbf\xbf",
	"\xf8\x88\x80\x80\x80", "\xfb\xbf\xbf\xbf\xbf", "\xfc\x84\x80\x80\x80\x80", "\xfe", "\xff", "\xfe\xff", "\xff\xfe", "\xff\xff\xff\xff",
}

// fine are parts that are right, one of each kind, each ready to have anything else behind it.
var fine = []string{
	"", "a", " ", "\x7f", "\xc2\x80", "\xe2\x82\xac", "\xf0\x9f\x98\x80", `\"`, `\\`, `\/`, `\n`, `\u0041`, `\u20AC`, `\uffff`, `\ud83d\ude00`,
}

// faults are parts with something wrong, whatever stands behind them, and the error of it.
var faults = []struct {
	s    string
	code api.Code
}{
	{"\x00", api.ErrForm},
	{"\n", api.ErrForm},
	{"\x1f", api.ErrForm},
	{"\xc0\x80", api.ErrText},
	{"\xff", api.ErrText},
	{"\xe2\x82\"", api.ErrText},
	{"\xe2\x82\\", api.ErrText},
	{"\xe2\x82\n", api.ErrText},
	{"\xed\xa0\x80", api.ErrText},
	{`\x`, api.ErrEscape},
	{`\ `, api.ErrEscape},
	{"\\\n", api.ErrEscape},
	{"\\\xff", api.ErrEscape},
	{`\u"`, api.ErrEscape},
	{`\u00g0`, api.ErrEscape},
	{"\\u00\n", api.ErrEscape},
	{"\\u00\xff", api.ErrEscape},
	{`\ude00`, api.ErrEscape},
	{`\ud83d"`, api.ErrEscape},
	{`\ud83da`, api.ErrEscape},
	{"\\ud83d\n", api.ErrEscape},
	{"\\ud83d\xff", api.ErrEscape},
	{`\ud83d\n`, api.ErrEscape},
	{`\ud83d\x`, api.ErrEscape},
	{`\ud83d\u0041`, api.ErrEscape},
	{`\ud83d\ud83d`, api.ErrEscape},
	{"\\ud83d\\ude\xff", api.ErrEscape},
}

// digitsOf tells the four digits of a number, small and great ones, and those of both kinds in turns.
func digitsOf(n int) []string {
	small := fmt.Sprintf("%04x", n)
	great := strings.ToUpper(small)
	return []string{small, great, small[:1] + great[1:2] + small[2:3] + great[3:], great[:1] + small[1:2] + great[2:3] + small[3:]}
}

// single tells what \ and one byte stand for.
var single = map[byte]string{'"': "\x22", '\\': "\x5c", '/': "\x2f", 'b': "\x08", 'f': "\x0c", 'n': "\x0a", 'r': "\x0d", 't': "\x09"}

var (
	numbered = regexp.MustCompile(`^\\u([0-9A-Fa-f]{4})`)
	begun    = regexp.MustCompile(`^(\\(u[0-9A-Fa-f]{0,3})?)?$`) // a front of \u and its digits, and nothing behind it
)

// unit tells the number at the beginning of s, if \u and four digits stand there; else what is wrong.
func unit(s string) (rune, api.Code) {
	found := numbered.FindStringSubmatch(s)
	switch {
	case found != nil:
		n, _ := strconv.ParseUint(found[1], 16, 16)
		return rune(n), api.OK
	case begun.MatchString(s):
		return 0, api.ErrCut
	}
	return 0, api.ErrEscape
}

// part tells what the part stands for that s, some bytes that are not ", begins with, and how long it is; or what is
// wrong.
func part(s string) (string, int, api.Code) {
	if s[0] != '\\' {
		r, size := utf8.DecodeRuneInString(s)
		switch {
		case s[0] < 32:
			return "", 0, api.ErrForm
		case r == utf8.RuneError && size == 1:
			return "", 0, api.ErrText
		}
		return s[:size], size, api.OK
	}
	if len(s) > 1 && single[s[1]] != "" {
		return single[s[1]], 2, api.OK
	}
	first, code := unit(s)
	if code != api.OK {
		return "", 0, code
	}
	if !utf16.IsSurrogate(first) {
		return string(first), 6, api.OK
	}
	if first >= 0xdc00 {
		return "", 0, api.ErrEscape
	}
	second, code := unit(s[6:])
	if code != api.OK {
		return "", 0, code
	}
	both := utf16.DecodeRune(first, second)
	if both == utf8.RuneError {
		return "", 0, api.ErrEscape
	}
	return string(both), 12, api.OK
}

// meant tells what the JSON stands for with which s begins, and how long it is; or what is wrong. It is made apart from
// the code, by patterns and by the library's characters and pairs.
func meant(s string) (string, int, api.Code) {
	if s == "" {
		return "", 0, api.ErrCut
	}
	if s[0] != '"' {
		return "", 0, api.ErrForm
	}
	text := ""
	at := 1
	for at < len(s) {
		if s[at] == '"' {
			return text, at + 1, api.OK
		}
		piece, size, code := part(s[at:])
		if code != api.OK {
			return "", 0, code
		}
		text += piece
		at += size
	}
	return "", 0, api.ErrCut
}

// wantRead reads a text of s, behind the bytes ahead and before those behind.
func wantRead(t *testing.T, ahead, s, behind, want string) {
	t.Helper()
	c := cursor.New(ahead + s + behind)
	c.Take(len(ahead))
	got := jstring.Read(c)
	if got != want || c.Err() != api.OK || c.At() != len(ahead)+len(s) || c.Left() != len(behind) {
		t.Errorf("%q between %q and %q: %q, at %d, left %d, error %d; want %q", s, ahead, behind, got, c.At(), c.Left(), c.Err(), want)
	}
}

// wantFail reads of s, behind the bytes ahead, what is no text.
func wantFail(t *testing.T, ahead, s string, want api.Code) {
	t.Helper()
	c := cursor.New(ahead + s)
	c.Take(len(ahead))
	if got := jstring.Read(c); got != "" || c.Err() != want {
		t.Errorf("%q behind %q: %q, error %d; want no text, error %d", s, ahead, got, c.Err(), want)
	}
}

// wantLike holds what is read of s against what is made apart.
func wantLike(t *testing.T, s string) {
	t.Helper()
	want, end, code := meant(s)
	if code != api.OK {
		wantFail(t, "", s, code)
		return
	}
	wantRead(t, "", s[:end], s[end:], want)
}

// What the tests hold the program against is itself what is written out.
func TestMeant(t *testing.T) {
	for _, one := range written {
		if got, end, code := meant(one.s + `z"`); got != one.want || end != len(one.s) || code != api.OK {
			t.Errorf("%q: %q, %d, %d, want %q", one.s, got, end, code, one.want)
		}
	}
	for _, one := range faults {
		if got, end, code := meant(`"a` + one.s + `z"`); got != "" || end != 0 || code != one.code {
			t.Errorf("%q: %q, %d, %d, want %d", one.s, got, end, code, one.code)
		}
	}
	for _, one := range wrong {
		if _, _, code := meant(`"` + one + `z"`); code != api.ErrText {
			t.Errorf("%q: %d, want ErrText", one, code)
		}
	}
}

// 10.1, 10.2: JSON written out, ahead of and behind other bytes, the beginnings of texts among them.
func TestReadWritten(t *testing.T) {
	for _, one := range written {
		for _, ahead := range []string{"", "a", `"`, `\`, `""`, "\n", "\xff\xe2", `{"k":`} {
			for _, behind := range []string{"", "a", `"`, `\`, `""`, `"a"`, ` "a"`, "\x00", "\n", "\x82", "\xff", `\ude00"`, `:1}`} {
				wantRead(t, ahead, one.s, behind, one.want)
			}
		}
	}
}

// 10.1: each byte as it stands, alone, behind an a, ahead of one, and between two.
func TestReadEachByte(t *testing.T) {
	for i := range 256 {
		b := string([]byte{byte(i)})
		switch {
		case i < 32:
			for _, s := range []string{`"` + b + `"`, `"a` + b + `"`, `"` + b + `a"`, `"` + b} {
				wantFail(t, "", s, api.ErrForm)
			}
		case i >= 128:
			for _, s := range []string{`"` + b + `"`, `"a` + b + `"`, `"` + b + `a"`, `"` + b} {
				wantFail(t, "", s, api.ErrText)
			}
		case b == `"`:
			wantRead(t, "", `""`, `"`, "")
			wantRead(t, "", `"a"`, `"`, "a")
			wantRead(t, "", `""`, `a"`, "")
		case b == `\`:
			wantFail(t, "", `"\"`, api.ErrCut)
			wantFail(t, "", `"a\"`, api.ErrCut)
			wantFail(t, "", `"\a"`, api.ErrEscape)
		default:
			wantRead(t, "", `"`+b+`"`, "", b)
			wantRead(t, "", `"a`+b+`"`, "", "a"+b)
			wantRead(t, "", `"`+b+`a"`, b, b+"a")
			wantRead(t, b, `"a`+b+`a"`, "", "a"+b+"a")
		}
	}
}

// 10.1: each character from 32 on stands for itself, but " and \.
func TestReadEachCharacter(t *testing.T) {
	for r := rune(32); r <= utf8.MaxRune; r++ {
		if r == '"' || r == '\\' || utf16.IsSurrogate(r) {
			continue
		}
		s := string(r)
		if got := jstring.Read(cursor.New(`"` + s + `"`)); got != s {
			t.Fatalf("%d: %q, want %q", r, got, s)
		}
	}
}

// 10.1, 10.2: \ with each byte behind it, with and without more behind that.
func TestReadEachEscape(t *testing.T) {
	for i := range 256 {
		b := byte(i)
		s := `"\` + string([]byte{b})
		want, is := single[b]
		switch {
		case is:
			wantRead(t, "", s+`"`, "", want)
			wantRead(t, "", s+`0041"`, `"`, want+"0041")
			wantFail(t, "", s, api.ErrCut)
		case b == 'u':
			wantRead(t, "", s+`0041"`, `"`, "A")
			wantFail(t, "", s, api.ErrCut)
			wantFail(t, "", s+`"`, api.ErrEscape)
		default:
			for _, behind := range []string{"", `"`, `0041"`, "\n", "\xff"} {
				wantFail(t, "", s+behind, api.ErrEscape)
			}
		}
	}
}

// 10.1, 10.2: \u with the digits of each number, small and great ones.
func TestReadEachNumber(t *testing.T) {
	for n := range 65536 {
		for _, digits := range digitsOf(n) {
			s := `"\u` + digits
			if n < 55296 || n > 57343 {
				wantRead(t, "", s+`"`, "", string(rune(n)))
				continue
			}
			wantFail(t, "", s+`"`, api.ErrEscape)
			if n >= 56320 {
				wantFail(t, "", s, api.ErrEscape)
				wantFail(t, "", s+`\udc00"`, api.ErrEscape)
				wantFail(t, "", s+`\ud800"`, api.ErrEscape)
				continue
			}
			wantFail(t, "", s, api.ErrCut)
			wantRead(t, "", s+`\udc00"`, "", string(utf16.DecodeRune(rune(n), 56320)))
		}
	}
}

// 10.1, 10.2: each byte at each place of a number's digits, of one and of either half of a pair.
func TestReadEachDigit(t *testing.T) {
	for _, s := range []string{`"\u0000"`, `"\u20ac"`, `"\uFFFF"`, `"\ud83d\ude00"`, `"\uDBFF\uDFFF"`} {
		for at := range len(s) {
			for i := range 256 {
				other := []byte(s)
				other[at] = byte(i)
				wantLike(t, string(other))
				wantLike(t, string(other[:at+1]))
				wantLike(t, s[:at]+string([]byte{byte(i)})+s[at:])
			}
		}
	}
	for i := range 256 {
		if strings.IndexByte("0123456789abcdefABCDEF", byte(i)) >= 0 {
			continue
		}
		b := string([]byte{byte(i)})
		for _, digits := range []string{"", "0", "00", "000", "d", "D8", "d80"} {
			for _, behind := range []string{"", `"`, "0", `0000"`} {
				wantFail(t, "", `"\u`+digits+b+behind, api.ErrEscape)
				wantFail(t, "", `"\ud800\u`+digits+b+behind, api.ErrEscape)
			}
		}
	}
}

// 10.1: all pairs, in order, are the characters from 65,536 on.
func TestReadEachPair(t *testing.T) {
	want := rune(65536)
	for first := 55296; first <= 56319; first++ {
		var s strings.Builder
		var text strings.Builder
		for second := 56320; second <= 57343; second++ {
			ways := digitsOf(first)
			s.WriteString(`\u` + ways[second%len(ways)] + `\u` + digitsOf(second)[first%len(ways)])
			text.WriteRune(want)
			want++
		}
		if got := jstring.Read(cursor.New(`"` + s.String() + `"`)); got != text.String() {
			t.Fatalf("pairs of the first one %d: %q", first, got)
		}
	}
	if want != 1114112 {
		t.Errorf("the greatest character that was tried: %d", want-1)
	}
}

// 10.2: behind the first one of a pair just the second ones may stand: those below, at and above their bounds, and the
// first ones.
func TestReadSecond(t *testing.T) {
	for _, first := range []int{55296, 55297, 55357, 56318, 56319} {
		for n := range 65536 {
			s := fmt.Sprintf(`"\u%04x\u%04x`, first, n)
			if n >= 56320 && n <= 57343 {
				wantRead(t, "", s+`"`, "", string(utf16.DecodeRune(rune(first), rune(n))))
				continue
			}
			wantFail(t, "", s, api.ErrEscape)
			wantFail(t, "", s+`"`, api.ErrEscape)
			wantFail(t, "", s+`\udc00"`, api.ErrEscape)
		}
	}
}

// 10.2: what else stands behind the first one of a pair, which has to go on with \u.
func TestReadFirstAlone(t *testing.T) {
	for _, first := range []string{`\ud800`, `\ud83d`, `\udbff`, `\uDBFF`} {
		for i := range 256 {
			b := string([]byte{byte(i)})
			for _, behind := range []string{"", `"`, `u`, `udc00"`, `\udc00"`} {
				if b != `\` {
					wantFail(t, "", `"`+first+b+behind, api.ErrEscape)
				}
				if b != "u" {
					wantFail(t, "", `"`+first+`\`+b+behind, api.ErrEscape)
				}
			}
		}
		for _, few := range []string{"", `\`, `\u`, `\ud`, `\ude`, `\ude0`, `\u0`, `\u00`, `\u004`, `\ud8`, `\uF`} {
			wantFail(t, "", `"`+first+few, api.ErrCut)
			wantFail(t, "", `"`+first+few+`"`, api.ErrEscape)
			wantFail(t, "", `"`+first+few+"\n", api.ErrEscape)
			wantFail(t, "", `"`+first+few+"\xff", api.ErrEscape)
		}
	}
}

// 10.2: the first byte has to be ".
func TestReadFirst(t *testing.T) {
	wantFail(t, "", "", api.ErrCut)
	wantFail(t, "abc", "", api.ErrCut)
	wantFail(t, `"a"`, "", api.ErrCut)
	for i := range 256 {
		b := string([]byte{byte(i)})
		if b == `"` {
			continue
		}
		for _, behind := range []string{"", `"`, `""`, `"a"`, "\xff", `\`} {
			wantFail(t, "", b+behind, api.ErrForm)
			wantFail(t, `"a"`, b+behind, api.ErrForm)
		}
	}
}

// 10.2: of each front of what is right the next byte lacks; but where it ends within a character's bytes it is ErrText.
func TestReadFronts(t *testing.T) {
	for _, one := range written {
		for few := range one.s {
			s := one.s[:few]
			want := api.ErrCut
			if !utf8.ValidString(s) {
				want = api.ErrText
			}
			wantFail(t, "", s, want)
			wantFail(t, `"b"`, s, want)
		}
	}
}

// 10.2: bytes that are no right characters, behind parts of all kinds, at the end and ahead of others.
func TestReadWrong(t *testing.T) {
	for _, s := range wrong {
		for _, ahead := range fine {
			for _, behind := range []string{"", `"`, `a"`, `\n"`, "\n", `\x`, "\xc2\x80\"", `\`} {
				wantFail(t, "", `"`+ahead+s+behind, api.ErrText)
			}
		}
	}
}

// 10.2: of two things that are wrong the first one counts.
func TestReadFirstFault(t *testing.T) {
	for _, one := range faults {
		for _, ahead := range fine {
			wantFail(t, "", `"`+ahead+one.s, one.code)
			for _, other := range faults {
				wantFail(t, "", `"`+ahead+one.s+other.s, one.code)
				wantFail(t, "", `"`+ahead+one.s+other.s+`"`, one.code)
				wantFail(t, "", `a"`+ahead+one.s+other.s+`"`, api.ErrForm)
			}
		}
	}
}

// 10.1, 10.2: what is wrong behind the text's end is not the text's.
func TestReadAheadOfFault(t *testing.T) {
	for _, one := range written {
		for _, other := range faults {
			wantRead(t, "", one.s, other.s, one.want)
		}
		for _, s := range wrong {
			wantRead(t, s, one.s, s, one.want)
		}
	}
}

// 10.1, 10.2: each text of up to six out of some pieces that matter, behind ".
func TestReadOfFew(t *testing.T) {
	list := []string{`"`}
	for range 6 {
		var longer []string
		for _, s := range list {
			for _, piece := range []string{`"`, `\`, "u", `\u`, "D83d", "dE00", "0", "n", "\n", "\xc3\xa9", "\xe2"} {
				longer = append(longer, s+piece)
			}
		}
		list = longer
		for _, s := range list {
			if wantLike(t, s); t.Failed() {
				return
			}
		}
	}
}

// 10.1, 10.2: each text of no, one, two and three bytes, behind " and ahead of ".
func TestReadOfBytes(t *testing.T) {
	wantLike(t, "")
	for a := range 256 {
		wantLike(t, string([]byte{byte(a)}))
		for b := range 256 {
			wantLike(t, string([]byte{byte(a), byte(b)}))
			wantLike(t, string([]byte{'"', byte(a), byte(b)}))
			for _, c := range []byte{0, 31, 32, '"', '\\', 'u', 127, 128, 191, 192, 255} {
				wantLike(t, string([]byte{'"', byte(a), byte(b), c, '"'}))
			}
		}
	}
}

// 10.1, 10.2: what is read is just what the library reads. It lays the character 65,533 where a number is none and no
// half of a pair: no other piece here stands for that.
func TestReadAsLibrary(t *testing.T) {
	pieces := append([]string{`"`, `\`, `\u`, "0a", "1", "\n", "\x00", "]", `\b`, `\a`}, fine[1:]...)
	for _, a := range pieces {
		for _, b := range pieces {
			for _, c := range pieces {
				s := `"` + a + b + c + `"`
				var want string
				right := json.Unmarshal([]byte(s), &want) == nil && !strings.ContainsRune(want, utf8.RuneError)
				d := cursor.New(s)
				got := jstring.Read(d)
				if is := d.End() == api.OK; is != right || is && got != want {
					t.Errorf("%q: %q, end %d; the library: %q, %v", s, got, d.End(), want, right)
				}
			}
		}
	}
}

// 10.2: bytes beyond a cursor's own lack, even if the text has them.
func TestReadWithinBounds(t *testing.T) {
	for _, one := range written {
		c := cursor.New("z" + one.s + one.s + "z")
		c.Byte()
		few, enough := c.Sub(len(one.s)-1), c.Sub(1+len(one.s))
		want := api.ErrCut
		if got := jstring.Read(few); got != "" || few.Err() != want {
			t.Errorf("%q without its last byte: %q, error %d, want %d", one.s, got, few.Err(), want)
		}
		enough.Byte()
		if got := jstring.Read(enough); got != one.want || enough.End() != api.OK || enough.At() != 1+2*len(one.s) {
			t.Errorf("%q: %q, end %d, at %d", one.s, got, enough.End(), enough.At())
		}
		if c.Err() != api.OK || c.At() != 1+2*len(one.s) {
			t.Errorf("the cursor around these: error %d, at %d", c.Err(), c.At())
		}
	}
	for _, one := range []struct {
		s    string
		n    int
		code api.Code
	}{
		{`""`, 0, api.ErrCut},
		{`""`, 1, api.ErrCut},
		{"\"\xe2\x82\xac\"", 2, api.ErrText},
		{"\"\xe2\x82\xac\"", 3, api.ErrText},
		{"\"\xe2\x82\xac\"", 4, api.ErrCut},
		{"\"\xf0\x9f\x98\x80\"", 4, api.ErrText},
		{`"\n"`, 2, api.ErrCut},
		{`"\u0041"`, 6, api.ErrCut},
		{`"\ud83d\ude00"`, 7, api.ErrCut},
		{`"\ud83d\ude00"`, 8, api.ErrCut},
		{`"\ud83d\ude00"`, 12, api.ErrCut},
	} {
		c := cursor.New(one.s).Sub(one.n)
		if got := jstring.Read(c); got != "" || c.Err() != one.code {
			t.Errorf("%d bytes of %q: %q, error %d, want %d", one.n, one.s, got, c.Err(), one.code)
		}
	}
}

// 10.2: a cursor that has an error keeps it, whatever stands there, and no text is read.
func TestReadOfFailed(t *testing.T) {
	for _, code := range []api.Code{api.ErrCut, api.ErrTail, api.ErrForm, api.ErrText, api.ErrEscape, api.ErrNone, api.ErrWeight, -1} {
		for _, s := range []string{"", `""`, `"a"`, `"a`, "a", `"\x"`, `"\ud83d"`, "\"\n\"", "\"\xff\""} {
			c := cursor.New(s)
			c.Fail(code)
			if got := jstring.Read(c); got != "" || c.Err() != code || c.At() != 0 || c.Left() != len(s) {
				t.Errorf("%q with error %d: %q, error %d, at %d, left %d", s, code, got, c.Err(), c.At(), c.Left())
			}
		}
	}
}

// 10.2: texts are read one behind the other; behind one that failed none is read any more.
func TestReadOnAndOn(t *testing.T) {
	c := cursor.New(`"""a""\n""\ud83d\ude00"""`)
	for _, want := range []string{"", "a", "\n", "\xf0\x9f\x98\x80", ""} {
		if got := jstring.Read(c); got != want || c.Err() != api.OK {
			t.Errorf("%q, error %d, want %q", got, c.Err(), want)
		}
	}
	if code := c.End(); code != api.OK {
		t.Error("all of it:", code)
	}
	for range 2 {
		if got := jstring.Read(c); got != "" || c.Err() != api.ErrCut {
			t.Errorf("behind all of it: %q, %d", got, c.Err())
		}
	}
	d := cursor.New(`"\x""a""b"`)
	for range 3 {
		if got := jstring.Read(d); got != "" || d.Err() != api.ErrEscape {
			t.Errorf("behind what is wrong: %q, %d", got, d.Err())
		}
	}
}

// 10.2 and R6: of a cursor that is nil no text, and no panic.
func TestReadOfNil(t *testing.T) {
	if got := jstring.Read(nil); got != "" {
		t.Errorf("%q", got)
	}
}

// 10.1, 10.2: long texts of parts of each kind; one more that is wrong at their end is found there.
func TestReadLong(t *testing.T) {
	const many = 20000
	for _, one := range fine[1:] {
		want, _, _ := meant(`"` + one + `"`)
		s := `"` + strings.Repeat(one, many)
		text := strings.Repeat(want, many)
		c := cursor.New(s + `"`)
		if got := jstring.Read(c); got != text || c.End() != api.OK {
			t.Errorf("many times %q: %d bytes, end %d", one, len(got), c.End())
		}
		wantFail(t, "", s, api.ErrCut)
		wantFail(t, "", s+"\n\"", api.ErrForm)
		wantFail(t, "", s+"\xff\"", api.ErrText)
		wantFail(t, "", s+`\x"`, api.ErrEscape)
	}
}

// wantPut holds what Put lays behind b against want, and Size against it.
func wantPut(t *testing.T, b []byte, s, want string) {
	t.Helper()
	if got := jstring.Put(b, s); string(got) != string(b)+want {
		t.Errorf("Put(%q, %q): %q, want %q", b, s, got, string(b)+want)
	}
	if got := jstring.Size(s); got != len(want) {
		t.Errorf("Size(%q): %d, want %d", s, got, len(want))
	}
}

// byBytes tells what Put lays, by a replacing of each byte that needs another one.
func byBytes(s string) string {
	pairs := []string{`"`, `\"`, `\`, `\\`}
	for i := range 32 {
		pairs = append(pairs, string([]byte{byte(i)}), fmt.Sprintf(`\u%04x`, i))
	}
	return `"` + strings.NewReplacer(pairs...).Replace(s) + `"`
}

// 10.3: texts written out, behind no list, an empty one, and others, with and without room.
func TestPutWritten(t *testing.T) {
	for _, one := range laid {
		for _, b := range [][]byte{nil, {}, {0}, []byte(`"`), []byte(`\`), []byte("abc"), []byte("\xe2\x82"), bytes.Repeat([]byte{'"'}, 100), make([]byte, 0, 100), make([]byte, 5, 100)} {
			wantPut(t, b, one.s, one.want)
		}
		if got := byBytes(one.s); got != one.want {
			t.Errorf("%q is replaced by %q, want %q", one.s, got, one.want)
		}
	}
}

// 10.3: each byte, alone and each two, whether they are right characters or not.
func TestPutEachByte(t *testing.T) {
	for i := range 256 {
		s := string([]byte{byte(i)})
		want := s
		switch {
		case i < 32:
			want = `\u00` + fmt.Sprintf("%02x", i)
		case s == `"` || s == `\`:
			want = `\` + s
		}
		wantPut(t, nil, s, `"`+want+`"`)
		for k := range 256 {
			two := s + string([]byte{byte(k)})
			wantPut(t, []byte("b"), two, byBytes(two))
		}
	}
}

// texts are those of other tests, as they are written and as they are meant, right and wrong.
func texts() []string {
	list := append(append([]string{}, wrong...), fine...)
	for _, one := range written {
		list = append(list, one.s, one.want)
	}
	for _, one := range laid {
		list = append(list, one.s, one.want)
	}
	for _, one := range faults {
		list = append(list, one.s)
	}
	return append(list, strings.Repeat("a\"\\\n\x7f\xe2\x82\xac\xff", 20000))
}

// 10.3: what is laid is as many bytes as Size says, each that of the text or what stands for it.
func TestPutTexts(t *testing.T) {
	for _, s := range texts() {
		wantPut(t, nil, s, byBytes(s))
		wantPut(t, []byte("ahead"), s, byBytes(s))
	}
}

// 10.1 to 10.3: what was put of a right text is read back as it was, by the library, too; what was put of another one is
// ErrText.
func TestPutAndRead(t *testing.T) {
	for _, s := range texts() {
		laid := string(jstring.Put(nil, s))
		if !utf8.ValidString(s) {
			wantFail(t, "", laid, api.ErrText)
			continue
		}
		wantRead(t, "ahead", laid, `"behind"`, s)
		var got string
		if err := json.Unmarshal([]byte(laid), &got); err != nil || got != s {
			t.Errorf("the library reads %q of %q: %v", got, laid, err)
		}
	}
}

// 10.3: texts are put one behind the other.
func TestPutOnAndOn(t *testing.T) {
	got := jstring.Put(jstring.Put(jstring.Put(jstring.Put(nil, ""), "a"), "\n"), `"`)
	if want := `"""a""\u000a""\""`; string(got) != want {
		t.Errorf("%q, want %q", got, want)
	}
}

// 10.3 and R3: a new list: neither b, nor what lies behind its length, is written to, and no answer shares with b, or
// with another answer.
func TestPutApart(t *testing.T) {
	for _, s := range []string{"", "a", "\"\n", "\xe2\x82\xac\\"} {
		for _, have := range []int{0, 3, 40} {
			const all = "0123456789abcdefghijklmnopqrstuvwxyzABCD"
			whole := []byte(all)
			b := whole[:have]
			one, other := jstring.Put(b, s), jstring.Put(b, s+"z")
			if string(whole) != all {
				t.Errorf("Put of %q writes to what it was handed: %q", s, whole)
			}
			if want := all[:have] + byBytes(s); string(one) != want {
				t.Errorf("the first answer changed with the second: %q, want %q", one, want)
			}
			for i := range one[:cap(one)] {
				one[:cap(one)][i] = 'X'
			}
			for i := range whole {
				whole[i] = 'Y'
			}
			if want := all[:have] + byBytes(s+"z"); string(other) != want {
				t.Errorf("the second answer changed with the first, or with b: %q, want %q", other, want)
			}
		}
	}
}

// 10.3 and R3: what lay behind b's length is not handed out behind the answer's.
func TestPutHidesRest(t *testing.T) {
	whole := bytes.Repeat([]byte{'S'}, 64)
	for _, s := range []string{"", "a", "\n"} {
		got := jstring.Put(whole[:2], s)
		if rest := got[len(got):cap(got)]; bytes.Contains(rest, []byte{'S'}) {
			t.Errorf("Put of %q hands out %q", s, rest)
		}
	}
}
