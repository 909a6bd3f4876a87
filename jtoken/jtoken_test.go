package jtoken_test

import (
	"bytes"
	"encoding/json"
	"fmt"
	"math/rand"
	"reflect"
	"regexp"
	"slices"
	"strings"
	"testing"
	"unicode/utf8"

	"truchman/api"
	"truchman/cursor"
	"truchman/jnum"
	"truchman/jstring"
	"truchman/jtoken"
)

// sample is a token's bytes, with the token written out.
type sample struct {
	s     string
	token jtoken.Token
}

var signs = []sample{
	{"{", jtoken.Token{Kind: '{'}},
	{"}", jtoken.Token{Kind: '}'}},
	{"[", jtoken.Token{Kind: '['}},
	{"]", jtoken.Token{Kind: ']'}},
	{":", jtoken.Token{Kind: ':'}},
	{",", jtoken.Token{Kind: ','}},
}

var words = []sample{
	{"true", jtoken.Token{Kind: 't'}},
	{"false", jtoken.Token{Kind: 'f'}},
	{"null", jtoken.Token{Kind: 'z'}},
}

var texts = []sample{
	{`""`, jtoken.Token{Kind: 's'}},
	{`"a"`, jtoken.Token{Kind: 's', Text: "a"}},
	{`" "`, jtoken.Token{Kind: 's', Text: " "}},
	{`"  a b  "`, jtoken.Token{Kind: 's', Text: "  a b  "}},
	{`"true"`, jtoken.Token{Kind: 's', Text: "true"}},
	{`"null"`, jtoken.Token{Kind: 's', Text: "null"}},
	{`"-1.5e1"`, jtoken.Token{Kind: 's', Text: "-1.5e1"}},
	{`"{}[]:,"`, jtoken.Token{Kind: 's', Text: "{}[]:,"}},
	{`"{\"a\":[1,null]}"`, jtoken.Token{Kind: 's', Text: `{"a":[1,null]}`}},
	{"\"\x7f\"", jtoken.Token{Kind: 's', Text: "\x7f"}},
	{"\"\xc3\xa9\"", jtoken.Token{Kind: 's', Text: "\xc3\xa9"}},
	{"\"\xe2\x82\xac\"", jtoken.Token{Kind: 's', Text: "\xe2\x82\xac"}},
	{"\"\xf0\x9f\x98\x80\"", jtoken.Token{Kind: 's', Text: "\xf0\x9f\x98\x80"}},
	{`"\""`, jtoken.Token{Kind: 's', Text: "\x22"}},
	{`"\\"`, jtoken.Token{Kind: 's', Text: "\x5c"}},
	{`"\/"`, jtoken.Token{Kind: 's', Text: "\x2f"}},
	{`"\b"`, jtoken.Token{Kind: 's', Text: "\x08"}},
	{`"\f"`, jtoken.Token{Kind: 's', Text: "\x0c"}},
	{`"\n"`, jtoken.Token{Kind: 's', Text: "\x0a"}},
	{`"\r"`, jtoken.Token{Kind: 's', Text: "\x0d"}},
	{`"\t"`, jtoken.Token{Kind: 's', Text: "\x09"}},
	{`"\\\""`, jtoken.Token{Kind: 's', Text: "\x5c\x22"}},
	{`"\u0000"`, jtoken.Token{Kind: 's', Text: "\x00"}},
	{`"\u0041"`, jtoken.Token{Kind: 's', Text: "A"}},
	{`"\u0022\u005c"`, jtoken.Token{Kind: 's', Text: "\x22\x5c"}},
	{`"\u20ac"`, jtoken.Token{Kind: 's', Text: "\xe2\x82\xac"}},
	{`"\u20AC"`, jtoken.Token{Kind: 's', Text: "\xe2\x82\xac"}},
	{`"\ud83d\ude00"`, jtoken.Token{Kind: 's', Text: "\xf0\x9f\x98\x80"}},
	{`"a\n\u0041\uD83D\uDE00 z"`, jtoken.Token{Kind: 's', Text: "a\nA\xf0\x9f\x98\x80 z"}},
}

var numbers = []sample{
	{"0", jtoken.Token{Kind: 'n', Text: "0"}},
	{"-0", jtoken.Token{Kind: 'n', Text: "-0"}},
	{"1", jtoken.Token{Kind: 'n', Text: "1"}},
	{"2", jtoken.Token{Kind: 'n', Text: "2"}},
	{"3", jtoken.Token{Kind: 'n', Text: "3"}},
	{"4", jtoken.Token{Kind: 'n', Text: "4"}},
	{"5", jtoken.Token{Kind: 'n', Text: "5"}},
	{"6", jtoken.Token{Kind: 'n', Text: "6"}},
	{"7", jtoken.Token{Kind: 'n', Text: "7"}},
	{"8", jtoken.Token{Kind: 'n', Text: "8"}},
	{"9", jtoken.Token{Kind: 'n', Text: "9"}},
	{"10", jtoken.Token{Kind: 'n', Text: "10"}},
	{"-12", jtoken.Token{Kind: 'n', Text: "-12"}},
	{"1234567890", jtoken.Token{Kind: 'n', Text: "1234567890"}},
	{"0.5", jtoken.Token{Kind: 'n', Text: "0.5"}},
	{"-0.050", jtoken.Token{Kind: 'n', Text: "-0.050"}},
	{"1.0", jtoken.Token{Kind: 'n', Text: "1.0"}},
	{"0e0", jtoken.Token{Kind: 'n', Text: "0e0"}},
	{"1e5", jtoken.Token{Kind: 'n', Text: "1e5"}},
	{"1E5", jtoken.Token{Kind: 'n', Text: "1E5"}},
	{"1e+05", jtoken.Token{Kind: 'n', Text: "1e+05"}},
	{"-1E-05", jtoken.Token{Kind: 'n', Text: "-1E-05"}},
	{"-10.050E+070", jtoken.Token{Kind: 'n', Text: "-10.050E+070"}},
	{"1e99999999999999999999999", jtoken.Token{Kind: 'n', Text: "1e99999999999999999999999"}},
	{"123456789012345678901234567890.5", jtoken.Token{Kind: 'n', Text: "123456789012345678901234567890.5"}},
}

// tokens are those of all kinds.
func tokens() []sample {
	return slices.Concat(signs, words, texts, numbers)
}

// blanks are the four of them, and several together.
var blanks = []string{"\x20", "\x09", "\x0a", "\x0d", "  ", "\r\n", "\n\n\n", "\t \t", " \t\n\r\r\n\t ", strings.Repeat(" \n", 1000)}

// fault is bytes with which no token begins, whatever stands behind them, and the error of that.
type fault struct {
	s    string
	code api.Code
}

var faults = []fault{
	// Bytes with which nothing begins.
	{"\x00", api.ErrForm},
	{"\x08", api.ErrForm},
	{"\x0b", api.ErrForm},
	{"\x0c", api.ErrForm},
	{"\x1f", api.ErrForm},
	{"!", api.ErrForm},
	{"'a'", api.ErrForm},
	{"+1", api.ErrForm},
	{".5", api.ErrForm},
	{"/", api.ErrForm},
	{"//", api.ErrForm},
	{";", api.ErrForm},
	{"=", api.ErrForm},
	{"?", api.ErrForm},
	{"(", api.ErrForm},
	{")", api.ErrForm},
	{"\\", api.ErrForm},
	{"`", api.ErrForm},
	{"a", api.ErrForm},
	{"e5", api.ErrForm},
	{"s", api.ErrForm},
	{"u0041", api.ErrForm},
	{"z", api.ErrForm},
	{"|", api.ErrForm},
	{"~", api.ErrForm},
	{"\x7f", api.ErrForm},
	{"\x80", api.ErrForm},
	{"\xa0", api.ErrForm},
	{"\xff", api.ErrForm},
	{"\xc2\xa0", api.ErrForm},
	{"\xe2\x80\x9ca\xe2\x80\x9d", api.ErrForm},
	{"\xe2\x80\xa8", api.ErrForm},
	{"\xef\xbb\xbf", api.ErrForm},
	{"\xef\xbc\x91", api.ErrForm},
	// Words that go on with another byte.
	{"trup", api.ErrForm},
	{"tx", api.ErrForm},
	{"trux", api.ErrForm},
	{"t\x00ue", api.ErrForm},
	{"tru\x00", api.ErrForm},
	{"tr\xc3\xbce", api.ErrForm},
	{"t rue", api.ErrForm},
	{"tru e", api.ErrForm},
	{"tru\n", api.ErrForm},
	{"tTUE", api.ErrForm},
	{"tRUE", api.ErrForm},
	{"trUe", api.ErrForm},
	{"fx", api.ErrForm},
	{"f\"", api.ErrForm},
	{"fals,", api.ErrForm},
	{"falsE", api.ErrForm},
	{"fals\xff", api.ErrForm},
	{"fa1se", api.ErrForm},
	{"nx", api.ErrForm},
	{"nil", api.ErrForm},
	{"none", api.ErrForm},
	{"nul]", api.ErrForm},
	{"nulL", api.ErrForm},
	{"nuul", api.ErrForm},
	{"nan", api.ErrForm},
	{"TRUE", api.ErrForm},
	{"True", api.ErrForm},
	{"FALSE", api.ErrForm},
	{"False", api.ErrForm},
	{"NULL", api.ErrForm},
	{"Null", api.ErrForm},
	{"NaN", api.ErrForm},
	{"Infinity", api.ErrForm},
	// Texts.
	{"\"\x00", api.ErrForm},
	{"\"\n", api.ErrForm},
	{"\"a\t\"", api.ErrForm},
	{"\"\x1f\"", api.ErrForm},
	{"\"\xff", api.ErrText},
	{"\"\xc0\x80\"", api.ErrText},
	{"\"a\xe2\x82\"", api.ErrText},
	{"\"\xed\xa0\x80\"", api.ErrText},
	{`"\x`, api.ErrEscape},
	{`"\ "`, api.ErrEscape},
	{`"\u00g0"`, api.ErrEscape},
	{`"\ude00"`, api.ErrEscape},
	{`"\ud83d"`, api.ErrEscape},
	{`"\ud83d\u0041"`, api.ErrEscape},
	{"\"\\\n\"", api.ErrEscape},
	// Numbers.
	{"-x", api.ErrForm},
	{"--1", api.ErrForm},
	{"-.5", api.ErrForm},
	{"- 1", api.ErrForm},
	{"-e", api.ErrForm},
	{"-true", api.ErrForm},
	{"-\"", api.ErrForm},
	{"1.x", api.ErrForm},
	{"1.e5", api.ErrForm},
	{"1. ", api.ErrForm},
	{"1.,", api.ErrForm},
	{"0.-", api.ErrForm},
	{"1ex", api.ErrForm},
	{"1e ", api.ErrForm},
	{"1E]", api.ErrForm},
	{"1e+x", api.ErrForm},
	{"-1.5e--", api.ErrForm},
}

// cuts are fronts of tokens that need more, and the error of such a one at the end of the bytes.
var cuts = []fault{
	{"t", api.ErrCut},
	{"tr", api.ErrCut},
	{"tru", api.ErrCut},
	{"f", api.ErrCut},
	{"fa", api.ErrCut},
	{"fal", api.ErrCut},
	{"fals", api.ErrCut},
	{"n", api.ErrCut},
	{"nu", api.ErrCut},
	{"nul", api.ErrCut},
	{`"`, api.ErrCut},
	{`"a`, api.ErrCut},
	{`"true`, api.ErrCut},
	{`"\`, api.ErrCut},
	{`"\"`, api.ErrCut},
	{`"\\\"`, api.ErrCut},
	{`"\n`, api.ErrCut},
	{`"\u`, api.ErrCut},
	{`"\u004`, api.ErrCut},
	{`"\u0041`, api.ErrCut},
	{`"\ud83d`, api.ErrCut},
	{`"\ud83d\`, api.ErrCut},
	{`"\ud83d\ude0`, api.ErrCut},
	{"\"\xe2\x82\xac", api.ErrCut},
	{"\"\xe2\x82", api.ErrText},
	{"\"\xf0", api.ErrText},
	{"-", api.ErrCut},
	{"1.", api.ErrCut},
	{"-0.", api.ErrCut},
	{"1e", api.ErrCut},
	{"1E", api.ErrCut},
	{"1e+", api.ErrCut},
	{"-10.5e-", api.ErrCut},
}

var (
	blank  = regexp.MustCompile(`^[\x20\x09\x0a\x0d]*`)
	single = regexp.MustCompile(`^[]{}[:,]`)
	worded = regexp.MustCompile(`^(true|false|null)`)
	begun  = regexp.MustCompile(`^(t|tr|tru|f|fa|fal|fals|n|nu|nul)$`)
	number = regexp.MustCompile(`^[-0-9]`)
)

// meant tells the token that s begins with, blanks ahead, and where it ends; or what is wrong. It is made apart from the
// code, by patterns, and, of texts and numbers, by the layers that read these.
func meant(s string) (jtoken.Token, int, api.Code) {
	ahead := len(blank.FindString(s))
	rest := s[ahead:]
	c := cursor.New(rest)
	var t jtoken.Token
	switch {
	case rest == "":
		return t, ahead, api.OK
	case single.MatchString(rest):
		return jtoken.Token{Kind: rest[0]}, ahead + 1, api.OK
	case worded.MatchString(rest):
		w := worded.FindString(rest)
		kind := map[string]byte{"true": 't', "false": 'f', "null": 'z'}[w]
		return jtoken.Token{Kind: kind}, ahead + len(w), api.OK
	case begun.MatchString(rest):
		return t, 0, api.ErrCut
	case rest[0] == '"':
		t = jtoken.Token{Kind: 's', Text: jstring.Read(c)}
	case number.MatchString(rest):
		t = jtoken.Token{Kind: 'n', Text: jnum.Read(c)}
	default:
		return t, 0, api.ErrForm
	}
	if c.Err() != api.OK {
		return jtoken.Token{}, 0, c.Err()
	}
	return t, ahead + c.At(), api.OK
}

// meantAll tells all tokens of s, or what is wrong first.
func meantAll(s string) ([]jtoken.Token, api.Code) {
	var list []jtoken.Token
	for {
		t, end, code := meant(s)
		if code != api.OK {
			return nil, code
		}
		if t.Kind == 0 {
			return list, api.OK
		}
		list = append(list, t)
		s = s[end:]
	}
}

// short tells a text by its beginning and its end, if it is long.
func short(s string) string {
	if len(s) > 80 {
		return fmt.Sprintf("%q .. %q (%d bytes)", s[:40], s[len(s)-30:], len(s))
	}
	return fmt.Sprintf("%q", s)
}

// wantNext reads the token of s, behind the bytes ahead and before those behind.
func wantNext(t *testing.T, ahead, s, behind string, want jtoken.Token) {
	t.Helper()
	c := cursor.New(ahead + s + behind)
	c.Take(len(ahead))
	got := jtoken.Next(c)
	if got != want || c.Err() != api.OK || c.At() != len(ahead)+len(s) || c.Left() != len(behind) {
		t.Errorf("%s between %s and %s: %c %s, at %d, left %d, error %d; want %c %s", short(s), short(ahead), short(behind), got.Kind, short(got.Text), c.At(), c.Left(), c.Err(), want.Kind, short(want.Text))
	}
}

// wantFail reads of s, behind the bytes ahead, what is no token.
func wantFail(t *testing.T, ahead, s string, want api.Code) {
	t.Helper()
	c := cursor.New(ahead + s)
	c.Take(len(ahead))
	if got := jtoken.Next(c); got != (jtoken.Token{}) || c.Err() != want {
		t.Errorf("%s behind %s: %c %s, error %d; want no token, error %d", short(s), short(ahead), got.Kind, short(got.Text), c.Err(), want)
	}
}

// wantLike holds what is read of s against what is made apart.
func wantLike(t *testing.T, s string) {
	t.Helper()
	want, end, code := meant(s)
	switch {
	case code != api.OK:
		wantFail(t, "", s, code)
	case want.Kind == 0:
		wantNone(t, "", s)
	default:
		wantNext(t, "", s[:end], s[end:], want)
	}
}

// wantNone asks for a token of s, which has none, once and again.
func wantNone(t *testing.T, ahead, s string) {
	t.Helper()
	c := cursor.New(ahead + s)
	c.Take(len(ahead))
	for range 3 {
		if got := jtoken.Next(c); got != (jtoken.Token{}) || c.Err() != api.OK || c.End() != api.OK {
			t.Errorf("%s behind %s: %c %s, error %d, end %d; want no token and no error", short(s), short(ahead), got.Kind, short(got.Text), c.Err(), c.End())
		}
	}
}

// wantAll asks for all tokens of s.
func wantAll(t *testing.T, s string, want []jtoken.Token, wantCode api.Code) {
	t.Helper()
	got, code := jtoken.All(s)
	if !slices.Equal(got, want) || code != wantCode {
		t.Errorf("%s: %v, %d; want %v, %d", short(s), got, code, want, wantCode)
	}
}

// What the tests hold the program against is itself what is written out.
func TestMeant(t *testing.T) {
	for _, one := range tokens() {
		for _, behind := range []string{"", " ", ",", "x", "\"", "\xff"} {
			if got, end, code := meant(" " + one.s + behind); got != one.token || end != 1+len(one.s) || code != api.OK {
				t.Errorf("%q ahead of %q: %v, %d, %d", one.s, behind, got, end, code)
			}
		}
	}
	for _, one := range faults {
		if got, _, code := meant(one.s + "1 "); got != (jtoken.Token{}) || code != one.code {
			t.Errorf("%q: %v, %d, want %d", one.s, got, code, one.code)
		}
	}
	for _, one := range cuts {
		if got, _, code := meant(one.s); got != (jtoken.Token{}) || code != one.code {
			t.Errorf("%q: %v, %d, want %d", one.s, got, code, one.code)
		}
	}
}

// 12.1: the kinds are bytes, those that the chapter writes.
func TestKinds(t *testing.T) {
	got := []any{jtoken.Text, jtoken.Number, jtoken.True, jtoken.False, jtoken.Null}
	want := []any{byte('s'), byte('n'), byte('t'), byte('f'), byte('z')}
	if !reflect.DeepEqual(got, want) {
		t.Errorf("%v, want %v", got, want)
	}
}

// 12.1, 12.2: tokens of all kinds, behind other bytes and blanks, and ahead of bytes that go on with none: the cursor
// stands right behind the token, within its own places.
func TestNextWritten(t *testing.T) {
	for _, one := range tokens() {
		for _, ahead := range []string{"", "a", "1", "-", `"`, `"\`, "tru", "\x00", "\xff\xe2", "[1,"} {
			for _, space := range append([]string{""}, blanks...) {
				for _, behind := range []string{"", "a", "x", "t", "true", "f", "null", "n", `"`, `""`, `"a"`, "{", "}", "[", "]", ":", ",", " ", "\t", "\n", "\r", "  ", " 1", "-", "-1", "+", "/", ";", "\\", "\x00", "\x82", "\xff"} {
					wantNext(t, ahead, space+one.s, behind, one.token)
				}
			}
		}
	}
}

// 12.1: each byte at the beginning, alone, behind blanks and ahead of others.
func TestNextFirst(t *testing.T) {
	for i := range 256 {
		b := string([]byte{byte(i)})
		for _, space := range append([]string{""}, blanks...) {
			switch {
			case strings.Contains("\x20\x09\x0a\x0d", b):
				wantNone(t, "", space+b)
				wantNext(t, "", space+b+"1", "", jtoken.Token{Kind: 'n', Text: "1"})
				wantNext(t, "", space+b+"[", b, jtoken.Token{Kind: '['})
			case strings.Contains("{}[]:,", b):
				for _, behind := range []string{"", b, " ", "1", "a", "\x00", "true", "\xff"} {
					wantNext(t, "", space+b, behind, jtoken.Token{Kind: byte(i)})
				}
			case b == `"`:
				wantFail(t, "", space+b, api.ErrCut)
				wantNext(t, "", space+b+b, b, jtoken.Token{Kind: 's'})
			case b == "-" || b == "t" || b == "f" || b == "n":
				wantFail(t, "", space+b, api.ErrCut)
				wantFail(t, "", space+b+"x", api.ErrForm)
				wantFail(t, "", space+b+" ", api.ErrForm)
			case "0" <= b && b <= "9":
				for _, behind := range []string{"", " ", ",", "a", "-", "+"} {
					wantNext(t, "", space+b, behind, jtoken.Token{Kind: 'n', Text: b})
				}
			default:
				for _, behind := range []string{"", b, " ", "1", "rue", "alse", "ull", `"`, "]", "\xff"} {
					wantFail(t, "", space+b+behind, api.ErrForm)
				}
			}
		}
	}
}

// 12.1: just four bytes are blanks: those next to them, and others that look like blanks, are none, ahead of a token, and
// behind one.
func TestNextBlanks(t *testing.T) {
	for i := range 256 {
		b := string([]byte{byte(i)})
		isBlank := i == 32 || i == 9 || i == 10 || i == 13
		for _, one := range []sample{{"]", jtoken.Token{Kind: ']'}}, {"12", jtoken.Token{Kind: 'n', Text: "12"}}, {"null", jtoken.Token{Kind: 'z'}}, {`"a"`, jtoken.Token{Kind: 's', Text: "a"}}} {
			switch {
			case isBlank:
				for _, few := range []int{1, 2, 3, 50} {
					wantNext(t, "", strings.Repeat(b, few)+one.s, "", one.token)
					wantNext(t, "", one.s, strings.Repeat(b, few), one.token)
				}
			case i < 33 || i > 126:
				wantFail(t, "", b+one.s, api.ErrForm)
				wantFail(t, "", " "+b+one.s, api.ErrForm)
				wantFail(t, "", b+" "+one.s, api.ErrForm)
				wantNext(t, "", one.s, b, one.token)
			}
		}
	}
	for _, b := range []string{"\xc2\x85", "\xc2\xa0", "\xe1\x9a\x80", "\xe2\x80\x80", "\xe2\x80\x8b", "\xe2\x80\xa8", "\xe2\x80\xa9", "\xe3\x80\x80", "\xef\xbb\xbf"} {
		wantFail(t, "", b+"1", api.ErrForm)
		wantFail(t, "", " "+b, api.ErrForm)
	}
}

// 12.1: all ways of up to four blanks, ahead of a token and behind it.
func TestNextBlanksOfFew(t *testing.T) {
	list := []string{""}
	for range 4 {
		var longer []string
		for _, s := range list {
			for _, one := range []string{"\x20", "\x09", "\x0a", "\x0d"} {
				longer = append(longer, s+one)
			}
		}
		list = longer
		for _, s := range list {
			wantNone(t, "", s)
			wantNone(t, "1", s)
			for _, one := range []sample{signs[0], words[0], words[1], words[2], texts[1], numbers[1]} {
				wantNext(t, "x", s+one.s, s, one.token)
			}
			wantAll(t, s+"["+s+"]"+s, []jtoken.Token{{Kind: '['}, {Kind: ']'}}, api.OK)
		}
	}
}

// 12.2: no byte at all, and blanks alone, are no token and no error, once and again; so is the end behind tokens.
func TestNextNone(t *testing.T) {
	for _, space := range append([]string{""}, blanks...) {
		for _, ahead := range []string{"", "a", " ", "[", "1", `"`, "tru"} {
			wantNone(t, ahead, space)
		}
		for _, one := range tokens() {
			c := cursor.New(one.s + space)
			jtoken.Next(c)
			for range 3 {
				if got := jtoken.Next(c); got != (jtoken.Token{}) || c.End() != api.OK {
					t.Errorf("behind %q and %s: %v, end %d", one.s, short(space), got, c.End())
				}
			}
		}
	}
}

// 12.2: each word cut at each place, with each of its bytes another one, and without one of them.
func TestNextWords(t *testing.T) {
	for _, one := range words {
		for at := range one.s {
			if at > 0 {
				wantFail(t, "", one.s[:at], api.ErrCut)
				wantFail(t, "x", " "+one.s[:at], api.ErrCut)
				wantFail(t, "", one.s[:at]+" "+one.s[at:], api.ErrForm)
				wantFail(t, "", one.s[:at]+strings.ToUpper(one.s[at:at+1])+one.s[at+1:], api.ErrForm)
			}
			for i := range 256 {
				if b := byte(i); b != one.s[at] && at > 0 {
					for _, behind := range []string{"", one.s[at:], one.s[at+1:], one.s, " "} {
						wantFail(t, "", one.s[:at]+string([]byte{b})+behind, api.ErrForm)
					}
				}
				wantLike(t, one.s[:at]+string([]byte{byte(i)})+one.s[at+1:])
			}
			wantLike(t, one.s[:at]+one.s[at+1:])
			wantLike(t, one.s[:at]+one.s[at:at+1]+one.s[at:])
		}
		wantFail(t, "", strings.ToUpper(one.s), api.ErrForm)
		wantFail(t, "", strings.ToUpper(one.s[:1])+one.s[1:], api.ErrForm)
		wantFail(t, "", one.s[1:], api.ErrForm)
	}
	// The end of one with the beginning of another.
	for _, s := range []string{"talse", "tull", "frue", "full", "nrue", "nalse", "trull", "falue", "nulse"} {
		wantFail(t, "", s, api.ErrForm)
	}
}

// 12.1, 12.2: a word ends with its last letter, whatever stands behind.
func TestNextWordAndMore(t *testing.T) {
	for _, one := range words {
		for i := range 256 {
			b := string([]byte{byte(i)})
			wantNext(t, "", one.s, b, one.token)
			wantNext(t, "", " "+one.s, b+one.s, one.token)
		}
		for _, other := range words {
			wantAll(t, one.s+other.s, []jtoken.Token{one.token, other.token}, api.OK)
			wantAll(t, one.s+other.s+one.s, []jtoken.Token{one.token, other.token, one.token}, api.OK)
			wantAll(t, one.s+other.s[:len(other.s)-1], nil, api.ErrCut)
		}
		for _, letter := range []string{"a", "e", "l", "s", "r", "u", "E", "_", "\xc3\xa9"} {
			wantAll(t, one.s+letter, nil, api.ErrForm)
		}
		for digit := range 10 {
			s := fmt.Sprint(digit)
			wantAll(t, one.s+s, []jtoken.Token{one.token, {Kind: 'n', Text: s}}, api.OK)
			wantAll(t, s+one.s, []jtoken.Token{{Kind: 'n', Text: s}, one.token}, api.OK)
		}
	}
}

// 12.2: texts that lack their end are cut, within a part and between two.
func TestNextTextFronts(t *testing.T) {
	for _, one := range texts {
		for few := 1; few < len(one.s); few++ {
			want := api.ErrCut
			if !utf8.ValidString(one.s[:few]) {
				want = api.ErrText
			}
			wantFail(t, "", one.s[:few], want)
			wantFail(t, `"`, " "+one.s[:few], want)
		}
	}
}

// 12.2: what is no token is the error that is written out, behind other bytes and blanks, and with more behind it.
func TestNextFaults(t *testing.T) {
	for _, one := range faults {
		for _, ahead := range []string{"", "1", `"`, "x", "tru", "\xff"} {
			for _, space := range append([]string{""}, blanks...) {
				for _, behind := range []string{"", " ", `"`, "1", "x", "]", "\n", "\xff", "?", "\"\xff\"", `"\x"`} {
					wantFail(t, ahead, space+one.s+behind, one.code)
				}
			}
		}
	}
	for _, one := range cuts {
		for _, ahead := range []string{"", "1", `"`, "x", "tru", "\xff"} {
			for _, space := range append([]string{""}, blanks...) {
				wantFail(t, ahead, space+one.s, one.code)
			}
		}
	}
}

// 12.2: each byte at each place of some tokens, in the place of another one, ahead of it, and at the end.
func TestNextEachByte(t *testing.T) {
	for _, s := range []string{"true", "false", "null", "{", `""`, `"a\n"`, `"\u0041"`, "\"\xc3\xa9\"", "-12", "0", "1.50e+1", " [", "\n1", "\t\"a\"", " true "} {
		for at := 0; at <= len(s); at++ {
			for i := range 256 {
				b := string([]byte{byte(i)})
				wantLike(t, s[:at]+b)
				wantLike(t, s[:at]+b+s[at:])
				if at < len(s) {
					wantLike(t, s[:at]+b+s[at+1:])
				}
			}
		}
	}
}

// 12.1, 12.2: each text of one, of two and of three bytes, the third one out of some that matter.
func TestNextOfBytes(t *testing.T) {
	for a := range 256 {
		wantLike(t, string([]byte{byte(a)}))
		for b := range 256 {
			wantLike(t, string([]byte{byte(a), byte(b)}))
			for _, c := range []byte("\x00\x09\x1f \"-0.,:]\\aelrstux}\x7f\x80\xff") {
				wantLike(t, string([]byte{byte(a), byte(b), c}))
			}
		}
	}
}

// 12.2: bytes beyond a cursor's own lack, even if the text has them.
func TestNextWithinBounds(t *testing.T) {
	for _, one := range tokens() {
		for _, space := range []string{"", " ", "\n\t"} {
			s := space + one.s
			for few := 0; few <= len(s); few++ {
				c := cursor.New("1" + s + "23e5true")
				c.Byte()
				d := c.Sub(few)
				want, end, code := meant(s[:few])
				if got := jtoken.Next(d); got != want || d.Err() != code {
					t.Errorf("%d bytes of %q: %v, error %d; want %v, error %d", few, s, got, d.Err(), want, code)
				}
				if code == api.OK && (d.At() != 1+end || d.Left() != few-end) {
					t.Errorf("%d bytes of %q: at %d, left %d", few, s, d.At(), d.Left())
				}
				if c.Err() != api.OK || c.At() != 1+few {
					t.Errorf("the cursor around these: error %d, at %d", c.Err(), c.At())
				}
			}
		}
	}
	for _, one := range []struct {
		s    string
		n    int
		want jtoken.Token
		code api.Code
	}{
		{"true", 0, jtoken.Token{}, api.OK},
		{"  true", 2, jtoken.Token{}, api.OK},
		{"  true", 3, jtoken.Token{}, api.ErrCut},
		{"true", 1, jtoken.Token{}, api.ErrCut},
		{"true", 3, jtoken.Token{}, api.ErrCut},
		{"true", 4, jtoken.Token{Kind: 't'}, api.OK},
		{"false", 4, jtoken.Token{}, api.ErrCut},
		{"null", 3, jtoken.Token{}, api.ErrCut},
		{"12", 1, jtoken.Token{Kind: 'n', Text: "1"}, api.OK},
		{"-1", 1, jtoken.Token{}, api.ErrCut},
		{"1.5", 2, jtoken.Token{}, api.ErrCut},
		{`"a"`, 2, jtoken.Token{}, api.ErrCut},
		{`""`, 1, jtoken.Token{}, api.ErrCut},
		{"\"\xe2\x82\xac\"", 3, jtoken.Token{}, api.ErrText},
		{"[]", 1, jtoken.Token{Kind: '['}, api.OK},
	} {
		c := cursor.New(one.s).Sub(one.n)
		if got := jtoken.Next(c); got != one.want || c.Err() != one.code {
			t.Errorf("%d bytes of %q: %v, error %d; want %v, error %d", one.n, one.s, got, c.Err(), one.want, one.code)
		}
	}
}

// 12.2: a cursor that has an error keeps it, whatever stands there, and no token is read.
func TestNextOfFailed(t *testing.T) {
	for _, code := range []api.Code{api.ErrCut, api.ErrTail, api.ErrForm, api.ErrText, api.ErrEscape, api.ErrNone, api.ErrWeight, 99, -1} {
		for _, s := range []string{"", " ", "[", " {", "1", "-", "true", "tru", "trup", "null", `"a"`, `"`, `"\x"`, "?", "\xff", "\n\n"} {
			c := cursor.New("7" + s)
			c.Byte()
			c.Fail(code)
			for range 2 {
				if got := jtoken.Next(c); got != (jtoken.Token{}) || c.Err() != code || c.At() != 1 || c.Left() != len(s) {
					t.Errorf("%q with error %d: %v, error %d, at %d, left %d", s, code, got, c.Err(), c.At(), c.Left())
				}
			}
		}
	}
}

// 12.2 and R6: of a cursor that is nil no token, and no panic.
func TestNextOfNil(t *testing.T) {
	if got := jtoken.Next(nil); got != (jtoken.Token{}) {
		t.Error(got)
	}
}

// 12.2: tokens are read one behind the other, each from where the one ahead of it ends; behind what is wrong none is read
// any more.
func TestNextOnAndOn(t *testing.T) {
	c := cursor.New(" {\"a\":\n[-1.5e1,truefalse 00 null]\t}\r\n")
	for _, one := range []struct {
		at    int
		token jtoken.Token
	}{
		{2, jtoken.Token{Kind: '{'}},
		{5, jtoken.Token{Kind: 's', Text: "a"}},
		{6, jtoken.Token{Kind: ':'}},
		{8, jtoken.Token{Kind: '['}},
		{14, jtoken.Token{Kind: 'n', Text: "-1.5e1"}},
		{15, jtoken.Token{Kind: ','}},
		{19, jtoken.Token{Kind: 't'}},
		{24, jtoken.Token{Kind: 'f'}},
		{26, jtoken.Token{Kind: 'n', Text: "0"}},
		{27, jtoken.Token{Kind: 'n', Text: "0"}},
		{32, jtoken.Token{Kind: 'z'}},
		{33, jtoken.Token{Kind: ']'}},
		{35, jtoken.Token{Kind: '}'}},
	} {
		if got := jtoken.Next(c); got != one.token || c.Err() != api.OK || c.At() != one.at {
			t.Errorf("%v, error %d, at %d; want %v, at %d", got, c.Err(), c.At(), one.token, one.at)
		}
	}
	for range 3 {
		if got := jtoken.Next(c); got != (jtoken.Token{}) || c.End() != api.OK {
			t.Errorf("behind all of it: %v, end %d", got, c.End())
		}
	}
	for _, one := range append(slices.Clone(faults), cuts...) {
		d := cursor.New("[" + one.s)
		jtoken.Next(d)
		for range 3 {
			if got := jtoken.Next(d); got != (jtoken.Token{}) || d.Err() != one.code {
				t.Errorf("behind what is wrong, %q: %v, %d", one.s, got, d.Err())
			}
		}
	}
}

// 12.2: All of texts written out.
func TestAllWritten(t *testing.T) {
	n := func(s string) jtoken.Token { return jtoken.Token{Kind: 'n', Text: s} }
	s := func(s string) jtoken.Token { return jtoken.Token{Kind: 's', Text: s} }
	for _, one := range []struct {
		s    string
		want []jtoken.Token
		code api.Code
	}{
		// The chapter's examples.
		{`[1, "a"]`, []jtoken.Token{{Kind: '['}, n("1"), {Kind: ','}, s("a"), {Kind: ']'}}, api.OK},
		{"tru", nil, api.ErrCut},
		{"trup", nil, api.ErrForm},
		// No token.
		{"", nil, api.OK},
		{" ", nil, api.OK},
		{"\t\r\n ", nil, api.OK},
		// Signs that fit to nothing: tokens are no values.
		{"]}", []jtoken.Token{{Kind: ']'}, {Kind: '}'}}, api.OK},
		{",,::", []jtoken.Token{{Kind: ','}, {Kind: ','}, {Kind: ':'}, {Kind: ':'}}, api.OK},
		{"{[:,]}", []jtoken.Token{{Kind: '{'}, {Kind: '['}, {Kind: ':'}, {Kind: ','}, {Kind: ']'}, {Kind: '}'}}, api.OK},
		// Numbers side by side, and with signs, words and texts.
		{"00", []jtoken.Token{n("0"), n("0")}, api.OK},
		{"007", []jtoken.Token{n("0"), n("0"), n("7")}, api.OK},
		{"1-1", []jtoken.Token{n("1"), n("-1")}, api.OK},
		{"-0-0", []jtoken.Token{n("-0"), n("-0")}, api.OK},
		{"0-1.5e5-2", []jtoken.Token{n("0"), n("-1.5e5"), n("-2")}, api.OK},
		{"1 2", []jtoken.Token{n("1"), n("2")}, api.OK},
		{"1\n-2", []jtoken.Token{n("1"), n("-2")}, api.OK},
		{"1,2", []jtoken.Token{n("1"), {Kind: ','}, n("2")}, api.OK},
		{"[1]", []jtoken.Token{{Kind: '['}, n("1"), {Kind: ']'}}, api.OK},
		{"{1}", []jtoken.Token{{Kind: '{'}, n("1"), {Kind: '}'}}, api.OK},
		{":1:", []jtoken.Token{{Kind: ':'}, n("1"), {Kind: ':'}}, api.OK},
		{`1"a"2`, []jtoken.Token{n("1"), s("a"), n("2")}, api.OK},
		{"1true2", []jtoken.Token{n("1"), {Kind: 't'}, n("2")}, api.OK},
		{"0false", []jtoken.Token{n("0"), {Kind: 'f'}}, api.OK},
		{"1 .5", nil, api.ErrForm},
		{"1+1", nil, api.ErrForm},
		{"1.5.5", nil, api.ErrForm},
		{"0x1", nil, api.ErrForm},
		// Texts side by side, and with words and signs.
		{`"""a"""`, []jtoken.Token{s(""), s("a"), s("")}, api.OK},
		{`"a":"b"`, []jtoken.Token{s("a"), {Kind: ':'}, s("b")}, api.OK},
		{`"a"true"b"null`, []jtoken.Token{s("a"), {Kind: 't'}, s("b"), {Kind: 'z'}}, api.OK},
		{`"\"","\\"`, []jtoken.Token{s(`"`), {Kind: ','}, s(`\`)}, api.OK},
		{`"a"b"`, nil, api.ErrForm},
		{`"""`, nil, api.ErrCut},
		// Blanks are not part of a token.
		{" true false\tnull\r\n", []jtoken.Token{{Kind: 't'}, {Kind: 'f'}, {Kind: 'z'}}, api.OK},
		{"tr ue", nil, api.ErrForm},
		{"- 1", nil, api.ErrForm},
		// No remarks.
		{"1 // one", nil, api.ErrForm},
		{"/**/1", nil, api.ErrForm},
		{"# 1", nil, api.ErrForm},
	} {
		wantAll(t, one.s, one.want, one.code)
		if want, code := meantAll(one.s); !slices.Equal(want, one.want) || code != one.code {
			t.Errorf("%q is meant as %v, %d", one.s, want, code)
		}
	}
}

// 12.2: All of each token alone, and of each two, with and without blanks between.
func TestAllOfTwo(t *testing.T) {
	for _, one := range tokens() {
		for _, space := range append([]string{""}, blanks...) {
			wantAll(t, space+one.s+space, []jtoken.Token{one.token}, api.OK)
		}
		for _, other := range tokens() {
			for _, space := range blanks {
				wantAll(t, one.s+space+other.s, []jtoken.Token{one.token, other.token}, api.OK)
			}
			both := one.s + other.s
			want, code := meantAll(both)
			wantAll(t, both, want, code)
			digits := one.token.Kind == 'n' && other.token.Kind == 'n'
			if apart := []jtoken.Token{one.token, other.token}; !digits && (code != api.OK || !slices.Equal(want, apart)) {
				t.Errorf("%q is meant as %v, %d, want %v", both, want, code, apart)
			}
		}
	}
}

// 12.2: each text of up to five out of pieces that matter.
func TestAllOfFew(t *testing.T) {
	list := []string{""}
	for range 5 {
		var longer []string
		for _, s := range list {
			for _, piece := range []string{"{", "]", ",", `"`, `\`, "a", " ", "0", "-", ".", "t", "rue", "null", "\xc3"} {
				longer = append(longer, s+piece)
			}
		}
		list = longer
		for _, s := range list {
			want, code := meantAll(s)
			if wantAll(t, s, want, code); t.Failed() {
				return
			}
		}
	}
}

// 12.2: a fault behind tokens that are right: its error, and no token. Of two faults the first one counts.
func TestAllFaults(t *testing.T) {
	aheads := []string{"", " ", "[", "[1,", "{\"a\" : ", "true", "null ", "1 ", `"a"`, "-1.5e1\n"}
	for _, one := range faults {
		for _, ahead := range aheads {
			wantAll(t, ahead+one.s, nil, one.code)
			wantAll(t, ahead+one.s+" ]", nil, one.code)
			for _, other := range append(slices.Clone(faults), cuts...) {
				wantAll(t, ahead+one.s+other.s, nil, one.code)
				wantAll(t, ahead+one.s+" "+other.s, nil, one.code)
			}
		}
		wantAll(t, strings.Repeat("[true,", 1000)+one.s, nil, one.code)
	}
	for _, one := range cuts {
		for _, ahead := range aheads {
			wantAll(t, ahead+one.s, nil, one.code)
		}
		wantAll(t, strings.Repeat("[true,", 1000)+one.s, nil, one.code)
	}
}

// 12.2: many tokens, and long ones; a fault behind them is found there.
func TestAllMany(t *testing.T) {
	const many = 20000
	for _, one := range tokens() {
		got, code := jtoken.All(strings.Repeat(one.s+" ", many))
		if len(got) != many || code != api.OK {
			t.Errorf("many times %q: %d tokens, %d", one.s, len(got), code)
		}
		for _, token := range got {
			if token != one.token {
				t.Fatalf("many times %q: %v", one.s, token)
			}
		}
		got, code = jtoken.All(strings.Repeat(one.s+" ", many) + "?")
		if len(got) != 0 || code != api.ErrForm {
			t.Errorf("many times %q, and what is wrong: %d tokens, %d", one.s, len(got), code)
		}
	}
	run := strings.Repeat("7", many)
	wantAll(t, run, []jtoken.Token{{Kind: 'n', Text: run}}, api.OK)
	wantAll(t, `"`+run+`"`, []jtoken.Token{{Kind: 's', Text: run}}, api.OK)
	wantAll(t, `"`+run, nil, api.ErrCut)
	wantAll(t, run+".", nil, api.ErrCut)
	wantAll(t, strings.Repeat(" ", many), nil, api.OK)
	wantAll(t, strings.Repeat(" ", many)+"\x0b", nil, api.ErrForm)
}

// 12.2: what All tells is the tokens that Next tells, one by one.
func TestAllAndNext(t *testing.T) {
	for _, s := range []string{"", " ", `{"a":[1,2.5e5,true,false,null,"\u20ac"],"b":{}}`, "1 2 3", "[[[", "[1,?", "tru", `"a" "\x"`} {
		var list []jtoken.Token
		c := cursor.New(s)
		for token := jtoken.Next(c); token.Kind != 0; token = jtoken.Next(c) {
			list = append(list, token)
		}
		if c.Err() != api.OK {
			list = nil
		}
		wantAll(t, s, list, c.Err())
	}
}

// 12.2 and R3: each answer of All is a list of its own.
func TestAllApart(t *testing.T) {
	const s = `[1,"a",true]`
	one, _ := jtoken.All(s)
	other, _ := jtoken.All(s)
	for i := range one {
		one[i] = jtoken.Token{Kind: 'X', Text: "X"}
	}
	want, _ := meantAll(s)
	if !slices.Equal(other, want) {
		t.Errorf("%v changed with another answer", other)
	}
	wantAll(t, s, want, api.OK)
}

// stream tells the tokens of a value as the library reads them: without commas and colons, numbers by their texts.
func stream(s string) []jtoken.Token {
	var list []jtoken.Token
	d := json.NewDecoder(strings.NewReader(s))
	d.UseNumber()
	for {
		token, err := d.Token()
		if err != nil {
			return list
		}
		switch x := token.(type) {
		case json.Delim:
			list = append(list, jtoken.Token{Kind: byte(x)})
		case string:
			list = append(list, jtoken.Token{Kind: 's', Text: x})
		case json.Number:
			list = append(list, jtoken.Token{Kind: 'n', Text: string(x)})
		case bool:
			list = append(list, jtoken.Token{Kind: map[bool]byte{true: 't', false: 'f'}[x]})
		case nil:
			list = append(list, jtoken.Token{Kind: 'z'})
		}
	}
}

// value makes some JSON by chance, with blanks anywhere.
func value(r *rand.Rand, deep int) string {
	space := func() string { return blanks[r.Intn(9)][:r.Intn(2)] }
	kind := r.Intn(6)
	if deep == 0 {
		kind = r.Intn(4)
	}
	var s strings.Builder
	switch kind {
	case 0:
		s.WriteString(words[r.Intn(len(words))].s)
	case 1, 2:
		s.WriteString(texts[r.Intn(len(texts))].s)
	case 3:
		s.WriteString(numbers[r.Intn(len(numbers))].s)
	case 4:
		s.WriteString("[")
		for i := range r.Intn(5) {
			if i > 0 {
				s.WriteString(",")
			}
			s.WriteString(value(r, deep-1))
		}
		s.WriteString(space() + "]")
	case 5:
		s.WriteString("{")
		for i := range r.Intn(5) {
			if i > 0 {
				s.WriteString(",")
			}
			s.WriteString(space() + texts[r.Intn(len(texts))].s + space() + ":" + value(r, deep-1))
		}
		s.WriteString(space() + "}")
	}
	return space() + s.String() + space()
}

// 12.1, 12.2: what the library takes as JSON has the tokens that it tells.
func TestAllAsLibrary(t *testing.T) {
	r := rand.New(rand.NewSource(12))
	for range 20000 {
		s := value(r, 4)
		if !json.Valid([]byte(s)) {
			t.Fatalf("%q is none", s)
		}
		got, code := jtoken.All(s)
		if code != api.OK {
			t.Fatalf("%q: %d", s, code)
		}
		got = slices.DeleteFunc(got, func(token jtoken.Token) bool { return token.Kind == ',' || token.Kind == ':' })
		if want := stream(s); !slices.Equal(got, want) {
			t.Fatalf("%q: %v, want %v", s, got, want)
		}
	}
}

// P0, 12.2: any bytes, those of JSON with some of them others, too, are told as they are meant.
func TestAllOfChance(t *testing.T) {
	r := rand.New(rand.NewSource(2))
	for range 20000 {
		b := []byte(value(r, 3))
		for range r.Intn(4) {
			if len(b) > 0 {
				b[r.Intn(len(b))] = byte(r.Intn(256))
			}
		}
		want, code := meantAll(string(b))
		wantAll(t, string(b), want, code)
		noise := make([]byte, r.Intn(20))
		r.Read(noise)
		want, code = meantAll(string(noise))
		wantAll(t, string(noise), want, code)
	}
}

// laid are tokens with what Put lays of them, written out.
var laid = []struct {
	token jtoken.Token
	want  string
}{
	{jtoken.Token{Kind: '{'}, "{"},
	{jtoken.Token{Kind: '}'}, "}"},
	{jtoken.Token{Kind: '['}, "["},
	{jtoken.Token{Kind: ']'}, "]"},
	{jtoken.Token{Kind: ':'}, ":"},
	{jtoken.Token{Kind: ','}, ","},
	{jtoken.Token{Kind: 't'}, "true"},
	{jtoken.Token{Kind: 'f'}, "false"},
	{jtoken.Token{Kind: 'z'}, "null"},
	// A sign and a word are laid without a Text that they have no use for.
	{jtoken.Token{Kind: '[', Text: "x"}, "["},
	{jtoken.Token{Kind: ',', Text: ","}, ","},
	{jtoken.Token{Kind: 't', Text: "false"}, "true"},
	{jtoken.Token{Kind: 'f', Text: "x"}, "false"},
	{jtoken.Token{Kind: 'z', Text: `"`}, "null"},
	// Numbers by their texts, whatever these are.
	{jtoken.Token{Kind: 'n', Text: "0"}, "0"},
	{jtoken.Token{Kind: 'n', Text: "-0"}, "-0"},
	{jtoken.Token{Kind: 'n', Text: "-1.50E+05"}, "-1.50E+05"},
	{jtoken.Token{Kind: 'n', Text: ""}, ""},
	{jtoken.Token{Kind: 'n', Text: "01"}, "01"},
	{jtoken.Token{Kind: 'n', Text: "null"}, "null"},
	{jtoken.Token{Kind: 'n', Text: "\"\n\xff"}, "\"\n\xff"},
	// Texts as JSON.
	{jtoken.Token{Kind: 's', Text: ""}, `""`},
	{jtoken.Token{Kind: 's', Text: "a"}, `"a"`},
	{jtoken.Token{Kind: 's', Text: "a b"}, `"a b"`},
	{jtoken.Token{Kind: 's', Text: "true"}, `"true"`},
	{jtoken.Token{Kind: 's', Text: "1"}, `"1"`},
	{jtoken.Token{Kind: 's', Text: `"`}, `"\""`},
	{jtoken.Token{Kind: 's', Text: `\`}, `"\\"`},
	{jtoken.Token{Kind: 's', Text: "/"}, `"/"`},
	{jtoken.Token{Kind: 's', Text: "\x00"}, `"\u0000"`},
	{jtoken.Token{Kind: 's', Text: "\n"}, `"\u000a"`},
	{jtoken.Token{Kind: 's', Text: "\x1f "}, `"\u001f "`},
	{jtoken.Token{Kind: 's', Text: "\x7f"}, "\"\x7f\""},
	{jtoken.Token{Kind: 's', Text: "\xe2\x82\xac"}, "\"\xe2\x82\xac\""},
	{jtoken.Token{Kind: 's', Text: "\xf0\x9f\x98\x80"}, "\"\xf0\x9f\x98\x80\""},
	// Bytes that are no characters stand as they are.
	{jtoken.Token{Kind: 's', Text: "\x80"}, "\"\x80\""},
	{jtoken.Token{Kind: 's', Text: "\xff\x00\xc0"}, "\"\xff\\u0000\xc0\""},
	{jtoken.Token{Kind: 's', Text: "\xed\xa0\x80\""}, "\"\xed\xa0\x80\\\"\""},
}

// wantPut holds what Put lays behind b against want.
func wantPut(t *testing.T, b []byte, token jtoken.Token, want string) {
	t.Helper()
	if got := jtoken.Put(b, token); string(got) != string(b)+want {
		t.Errorf("Put(%q, %c %q): %q, want %q", b, token.Kind, token.Text, got, string(b)+want)
	}
}

// 12.3: tokens written out, behind no list, an empty one, and others, with and without room.
func TestPutWritten(t *testing.T) {
	for _, one := range laid {
		for _, b := range [][]byte{nil, {}, {0}, []byte(`"`), []byte(`\`), []byte("["), []byte("1"), []byte("abc"), []byte("\xe2\x82"), bytes.Repeat([]byte{'['}, 100), make([]byte, 0, 100), make([]byte, 5, 100)} {
			wantPut(t, b, one.token, one.want)
		}
	}
}

// 12.3: of kind 0, and of each kind that is none, nothing is laid, whatever the Text is.
func TestPutEachKind(t *testing.T) {
	want := map[byte]string{'{': "{", '}': "}", '[': "[", ']': "]", ':': ":", ',': ",", 's': `"1\"\u000a"`, 'n': "1\"\n", 't': "true", 'f': "false", 'z': "null"}
	for i := range 256 {
		for _, b := range [][]byte{nil, {}, []byte("ahead"), make([]byte, 3, 50)} {
			wantPut(t, b, jtoken.Token{Kind: byte(i), Text: "1\"\n"}, want[byte(i)])
			if want[byte(i)] == "" {
				wantPut(t, b, jtoken.Token{Kind: byte(i)}, "")
			}
		}
	}
}

// 12.3: each byte as a text, and as a number's text.
func TestPutEachByte(t *testing.T) {
	for i := range 256 {
		s := string([]byte{byte(i)})
		want := s
		switch {
		case i < 32:
			want = fmt.Sprintf(`\u%04x`, i)
		case s == `"` || s == `\`:
			want = `\` + s
		}
		wantPut(t, []byte("b"), jtoken.Token{Kind: 's', Text: s}, `"`+want+`"`)
		wantPut(t, nil, jtoken.Token{Kind: 's', Text: s + "a" + s}, `"`+want+"a"+want+`"`)
		wantPut(t, []byte("b"), jtoken.Token{Kind: 'n', Text: s}, s)
	}
}

// 12.1 to 12.3: what is put of tokens, a blank between two numbers, is told as these by All.
func TestPutAndAll(t *testing.T) {
	var every []jtoken.Token
	for _, one := range tokens() {
		b := jtoken.Put([]byte(" "), one.token)
		wantAll(t, string(b), []jtoken.Token{one.token}, api.OK)
		every = append(every, one.token)
	}
	var list []byte
	for _, token := range every {
		list = append(jtoken.Put(list, token), ' ')
	}
	wantAll(t, string(list), every, api.OK)
	r := rand.New(rand.NewSource(3))
	for range 2000 {
		list, code := jtoken.All(value(r, 4))
		var b []byte
		for _, token := range list {
			b = jtoken.Put(b, token)
		}
		wantAll(t, string(b), list, code)
	}
	// What is no character is laid, but not read.
	wantAll(t, string(jtoken.Put(nil, jtoken.Token{Kind: 's', Text: "\xff"})), nil, api.ErrText)
}

// 12.3: long ones.
func TestPutLong(t *testing.T) {
	run := strings.Repeat("1", 100000)
	wantPut(t, []byte(run), jtoken.Token{Kind: 'n', Text: run}, run)
	wantPut(t, []byte(run), jtoken.Token{Kind: 's', Text: run}, `"`+run+`"`)
	wantPut(t, []byte(run), jtoken.Token{Kind: 'z', Text: run}, "null")
	wantPut(t, []byte(run), jtoken.Token{}, "")
}

// 12.3 and R3: a new list: neither b, nor what lies behind its length, is written to, and no answer shares with b, or
// with another answer, also where nothing is laid.
func TestPutApart(t *testing.T) {
	const all = "0123456789abcdefghijklmnopqrstuvwxyzABCD"
	for _, one := range append(slices.Clone(laid), struct {
		token jtoken.Token
		want  string
	}{jtoken.Token{Kind: 0, Text: "x"}, ""}) {
		for _, have := range []int{0, 3, 30, 40} {
			whole := []byte(all)
			b := whole[:have]
			first, second := jtoken.Put(b, one.token), jtoken.Put(b, one.token)
			third := jtoken.Put(b, jtoken.Token{Kind: 'n', Text: "<another>"})
			if string(whole) != all {
				t.Errorf("Put of %v writes to what it was handed: %q", one.token, whole)
			}
			if string(first) != all[:have]+one.want || string(third) != all[:have]+"<another>" {
				t.Errorf("%v: %q, and another one %q", one.token, first, third)
			}
			for i := range first[:cap(first)] {
				first[:cap(first)][i] = 'X'
			}
			for i := range whole {
				whole[i] = 'Y'
			}
			if string(second) != all[:have]+one.want {
				t.Errorf("%v: the second answer changed with the first, or with b: %q", one.token, second)
			}
		}
	}
}

// 12.3 and R3: what lay behind b's length is not handed out behind the answer's.
func TestPutHidesRest(t *testing.T) {
	whole := bytes.Repeat([]byte{'S'}, 64)
	for i := range 256 {
		got := jtoken.Put(whole[:2], jtoken.Token{Kind: byte(i), Text: "1"})
		if rest := got[len(got):cap(got)]; bytes.Contains(rest, []byte{'S'}) {
			t.Errorf("Put of kind %d hands out %q", i, rest)
		}
	}
}
