package jnum_test

import (
	"encoding/json"
	"math"
	"math/big"
	"regexp"
	"strconv"
	"strings"
	"testing"

	"truchman/api"
	"truchman/cursor"
	"truchman/jnum"
)

// written are numbers' texts.
var written = []string{
	"0", "-0", "1", "9", "-1", "-9", "10", "19", "90", "100", "-10", "1234567890", "-9876543210",
	"9223372036854775807", "-9223372036854775808", "9223372036854775808", "18446744073709551616", "123456789012345678901234567890",
	"0.0", "0.1", "-0.0", "-0.5", "1.0", "1.5", "10.01", "0.000", "0.10", "0.010", "0.001", "1.50", "-12.0340", "3.00000000000000000000001",
	"0e0", "0E0", "0e5", "0e05", "0E-5", "0e+5", "-0e1", "1e0", "1e1", "1E1", "1e+1", "1E+1", "1e-1", "1E-1", "1e10", "1e010", "1e-007", "1E+00", "-1e9",
	"0.0e0", "0.5e1", "1.50e1", "15e-1", "1.0E+10", "-1.25E-20", "-10.010e+010", "1e99999999999999999999999",
}

// behinds are bytes that may stand behind a number's text and go on with none, whatever its parts are.
var behinds = []string{
	"", " ", "\n", "\x00", "\xff", "\x2f", ":", ",", "]", "}", "a", "d", "f", "x", "-", "+", "-1", "+1", " 1", ",1", "-0.5e1", "+e", "/2", "\xd9\xa1", "\xef\xbc\x91",
}

// ends are texts, where their first number's text ends, and what is behind it.
var ends = []struct {
	number, behind string
}{
	// A nought ends the digits.
	{"0", "0"},
	{"0", "1"},
	{"0", "9"},
	{"0", "00"},
	{"0", "123"},
	{"-0", "0"},
	{"-0", "1"},
	{"-0", "7.5"},
	{"0", "-0"},
	{"0", "x"},
	// A second dot, a second e.
	{"1.5", ".5"},
	{"1.5", "."},
	{"0.0", ".0"},
	{"1e5", "e5"},
	{"1e5", "e"},
	{"1e5", "E5"},
	{"1E5", "e"},
	{"1e5", ".5"},
	{"1e5", "."},
	{"1.5e5", ".5e5"},
	{"1.5e5", "e5"},
	{"1e+5", ".5"},
	{"1e-0", "e0"},
	// Signs, which end all but e alone.
	{"1", "-"},
	{"1", "+"},
	{"1", "-1"},
	{"1", "+1"},
	{"1.5", "-1"},
	{"1.5", "+1"},
	{"1e5", "-1"},
	{"1e5", "+1"},
	{"1e+5", "+5"},
	{"1e-5", "-5"},
	{"-1", "-1"},
	// As long as may be.
	{"1e0", "x"},
	{"1e00000", "x"},
	{"1.0000", "x"},
	{"10000", "x"},
	{"1234567890", "a"},
	{"1.1234567890", "a"},
	{"1e1234567890", "a"},
}

// cut are texts at whose end a digit has to stand.
var cut = []string{
	"", "-", "0.", "1.", "-0.", "-1.", "10.", "0e", "0E", "1e", "1E", "-1e", "0e+", "0e-", "1e+", "1e-", "1E+", "1E-", "-0E-",
	"0.0e", "1.5e", "1.5E", "1.5e+", "1.5e-", "1.05E+", "-10.010e-", "123.", "123e", "123.456e", "123.456e+",
}

// wrongs are bytes that are no digits.
var wrongs = []string{
	"a", "e", "E", "x", ".", "-", "+", " ", "\t", "\n", "\r", "\x00", "/", ":", "\"", ",", "]", "}", "\x80", "\xff", "\xb0", "\xc2\xb2", "\xd9\xa0", "\xef\xbc\x91",
}

// noForm are texts that are no number's.
var noForm = []string{
	"+", "+0", "+1", "+1.5", "+e", "--", "--1", "-+1", "+-1", ".", ".0", ".5", "-.5", "-.", "e", "E", "e1", "-e", "-e1", "-E1", "E+1", "-a", "-x1", "- 1",
	"00", "01", "-00", "-01", "007", "00.5", "01e1", "0x10", "0b1", "0o7", "1_000", "1,000", "1.5.5", "1..5", "1e5e5", "1e5.5", "1e1.0", "1e--5", "1e++5", "1e+-5", "1e-+5",
	"1.e5", "1.E5", "0.e", "1.-5", "1.+5", "1e 5", "1e+ 5", "1. 5", "1 .5", "1 e5", "1ee5", "1eE5", "1e.5", "1e+.5",
	"1.x", "1ex", "1e+x", "1e-x", "0.x", "0ex", "1e5x", "1.5x", "1x", "0x", "-0x", "1\x00", "1\xff", "\x001", "\xff1", "1\x80",
	" 1", "1 ", "\t1", "1\n", "\r1", " ", "1 2", "1,2", "[1]", "\"1\"", "1L", "1f", "1d", "1n", "0a", "a", "NaN", "nan", "Infinity", "-Infinity", "inf", "-inf", "true", "null",
	"\xd9\xa1", "\xef\xbc\x91", "1\xef\xbc\x91", "\xe2\x88\x921", "1\xe2\x88\x92", "\xef\xbb\xbf1", "1\xcc\x81",
}

// parts tell how a number's text goes, part by part: what a part that may be begins with, how it goes on, and at which of
// its fronts a digit lacks.
var parts = []struct {
	begins, goes, lacks *regexp.Regexp
}{
	{regexp.MustCompile(`^`), regexp.MustCompile(`^-?(?:0|[1-9][0-9]*)`), regexp.MustCompile(`^-?$`)},
	{regexp.MustCompile(`^\.`), regexp.MustCompile(`^\.[0-9]+`), regexp.MustCompile(`^\.$`)},
	{regexp.MustCompile(`^[eE]`), regexp.MustCompile(`^[eE][-+]?[0-9]+`), regexp.MustCompile(`^[eE][-+]?$`)},
}

// meant tells how long the number's text is with which s begins, or what is wrong. It is made apart from the code, by
// patterns.
func meant(s string) (int, api.Code) {
	at := 0
	for _, part := range parts {
		rest := s[at:]
		if !part.begins.MatchString(rest) {
			continue
		}
		found := part.goes.FindString(rest)
		switch {
		case found != "":
			at += len(found)
		case part.lacks.MatchString(rest):
			return 0, api.ErrCut
		default:
			return 0, api.ErrForm
		}
	}
	return at, api.OK
}

var (
	form   = regexp.MustCompile(`^-?(0|[1-9][0-9]*)(\.[0-9]+)?([eE][-+]?[0-9]+)?$`)
	nought = regexp.MustCompile(`^-?[0.]+([eE]|$)`)
	up     = regexp.MustCompile(`[eE]\+?0*[1-9][0-9]{4}`)
	down   = regexp.MustCompile(`[eE]-0*[1-9][0-9]{4}`)
)

// worth tells what a text of less than 5,000 bytes is worth, by patterns and the library's fractions, which know no bound.
// Powers of 10,000 and beyond, for which it has too few digits in any case, would make these too long: what they come to
// is told by their signs.
func worth(s string) (int, api.Code) {
	switch {
	case !form.MatchString(s):
		return 0, api.ErrForm
	case nought.MatchString(s):
		return 0, api.OK
	case up.MatchString(s):
		return 0, api.ErrRange
	case down.MatchString(s):
		return 0, api.ErrKind
	}
	r, is := new(big.Rat).SetString(s)
	switch {
	case !is:
		panic("no fraction: " + s)
	case !r.IsInt():
		return 0, api.ErrKind
	case !r.Num().IsInt64():
		return 0, api.ErrRange
	}
	return int(r.Num().Int64()), api.OK
}

// short tells a text by its beginning and its end, if it is long.
func short(s string) string {
	if len(s) > 80 {
		return s[:40] + " .. " + s[len(s)-30:] + " (" + strconv.Itoa(len(s)) + " bytes)"
	}
	return s
}

// wantRead reads the number's text s, behind the bytes ahead and before those behind.
func wantRead(t *testing.T, ahead, s, behind string) {
	t.Helper()
	c := cursor.New(ahead + s + behind)
	c.Take(len(ahead))
	got := jnum.Read(c)
	if got != s || c.Err() != api.OK || c.At() != len(ahead)+len(s) || c.Left() != len(behind) {
		t.Errorf("%q between %q and %q: %q, at %d, left %d, error %d", short(s), ahead, short(behind), short(got), c.At(), c.Left(), c.Err())
	}
}

// wantFail reads of s, behind the bytes ahead, what is no number.
func wantFail(t *testing.T, ahead, s string, want api.Code) {
	t.Helper()
	c := cursor.New(ahead + s)
	c.Take(len(ahead))
	if got := jnum.Read(c); got != "" || c.Err() != want {
		t.Errorf("%q behind %q: %q, error %d; want no number, error %d", short(s), ahead, short(got), c.Err(), want)
	}
}

// wantLike holds what is read of s against what is made apart.
func wantLike(t *testing.T, s string) {
	t.Helper()
	size, code := meant(s)
	if code != api.OK {
		wantFail(t, "", s, code)
		return
	}
	wantRead(t, "", s[:size], s[size:])
}

// wantWhole asks what s is worth.
func wantWhole(t *testing.T, s string, want int, wantCode api.Code) {
	t.Helper()
	if got, code := jnum.Whole(s); got != want || code != wantCode {
		t.Errorf("%q: %d, %d; want %d, %d", short(s), got, code, want, wantCode)
	}
}

// wantWorth holds what s is worth against what is made apart.
func wantWorth(t *testing.T, s string) {
	t.Helper()
	want, code := worth(s)
	wantWhole(t, s, want, code)
}

// What the tests hold the program against is itself what is written out.
func TestMeant(t *testing.T) {
	for _, s := range written {
		for _, behind := range behinds {
			if size, code := meant(s + behind); size != len(s) || code != api.OK {
				t.Errorf("%q ahead of %q: %d, %d", s, behind, size, code)
			}
		}
		if !form.MatchString(s) {
			t.Errorf("%q is not of a number's form", s)
		}
	}
	for _, one := range ends {
		if size, code := meant(one.number + one.behind); size != len(one.number) || code != api.OK {
			t.Errorf("%q ahead of %q: %d, %d", one.number, one.behind, size, code)
		}
	}
	for _, s := range cut {
		if _, code := meant(s); code != api.ErrCut {
			t.Errorf("%q: %d, want ErrCut", s, code)
		}
	}
	for _, s := range noForm {
		if _, code := worth(s); code != api.ErrForm {
			t.Errorf("%q: %d, want ErrForm", s, code)
		}
	}
}

// 11.1: numbers' texts written out, ahead of and behind other bytes.
func TestReadWritten(t *testing.T) {
	for _, s := range written {
		for _, ahead := range []string{"", "0", "1", "-", "+", ".", "1.", "1e", "1e+", "a", " ", "[1,", "\xff", "12345"} {
			for _, behind := range behinds {
				wantRead(t, ahead, s, behind)
			}
		}
	}
}

// 11.1: each part is taken as long as may be, and no longer.
func TestReadEnds(t *testing.T) {
	for _, one := range ends {
		for _, ahead := range []string{"", "0", "-", "1.5e1"} {
			wantRead(t, ahead, one.number, one.behind)
		}
	}
}

// 11.1: where a digit has to stand and no byte is left.
func TestReadCut(t *testing.T) {
	for _, s := range cut {
		for _, ahead := range []string{"", "1", "-", "1.5", "x"} {
			wantFail(t, ahead, s, api.ErrCut)
		}
	}
}

// 11.1: where a digit has to stand and another byte does, with and without a digit behind it.
func TestReadForm(t *testing.T) {
	for _, s := range cut {
		for _, wrong := range wrongs {
			// What is no digit may be a sign that may stand there.
			if strings.HasSuffix(s, "e") || strings.HasSuffix(s, "E") {
				if wrong == "-" || wrong == "+" {
					wantFail(t, "", s+wrong, api.ErrCut)
					wantRead(t, "", s+wrong+"1", "")
					continue
				}
			}
			if s == "" && wrong == "-" {
				wantFail(t, "", "-", api.ErrCut)
				wantRead(t, "", "-1", "")
				continue
			}
			for _, behind := range []string{"", "0", "1", ".5", "e1", "-1", " 1"} {
				wantFail(t, "", s+wrong+behind, api.ErrForm)
				wantFail(t, "1.5", s+wrong+behind, api.ErrForm)
			}
		}
	}
}

// 11.1: each byte at the beginning, alone and ahead of others.
func TestReadFirst(t *testing.T) {
	for i := range 256 {
		b := string([]byte{byte(i)})
		switch {
		case b == "-":
			wantFail(t, "", b, api.ErrCut)
		case b == "0":
			wantRead(t, "", b, "")
			wantRead(t, "", b, "1")
		case "1" <= b && b <= "9":
			wantRead(t, "", b, "")
			wantRead(t, "", b+"1", "")
		default:
			for _, behind := range []string{"", "0", "1", "-1", ".5", "e1"} {
				wantFail(t, "", b+behind, api.ErrForm)
			}
		}
	}
}

// 11.1: each byte at each place of some texts, in the place of another one, at the end and ahead of it.
func TestReadEachByte(t *testing.T) {
	for _, s := range []string{"0", "-0", "10", "-12", "0.50", "-1.05", "1e5", "0E-10", "2e+05", "-10.050E+070", "1.5e1"} {
		for at := 0; at <= len(s); at++ {
			for i := range 256 {
				b := string([]byte{byte(i)})
				wantLike(t, s[:at]+b)
				wantLike(t, s[:at]+b+s[at:])
				if at < len(s) {
					wantLike(t, s[:at]+b+s[at+1:])
				}
			}
		}
	}
}

// 11.1: parts of all kinds, each there and not there, of one digit and of several.
func TestReadParts(t *testing.T) {
	for _, sign := range []string{"", "-"} {
		for _, whole := range []string{"0", "5", "10", "9876543210", "100000000000000000000"} {
			for _, part := range []string{"", ".0", ".5", ".00", ".05", ".50", ".0123456789", ".000000000000000000001"} {
				for _, power := range []string{"", "e0", "E0", "e5", "E5", "e05", "e00", "e+5", "E+05", "e-5", "E-00", "e0123456789", "e-98765432109876543210"} {
					for _, behind := range behinds {
						wantRead(t, "", sign+whole+part+power, behind)
					}
				}
			}
		}
	}
}

// 11.1: each text of up to six out of the bytes that matter, and one that does not, is read as it is made apart; and it is
// a number's text just if the library takes it.
func TestReadOfFew(t *testing.T) {
	list := []string{""}
	wantLike(t, "")
	for range 6 {
		var longer []string
		for _, s := range list {
			for _, piece := range []string{"-", "+", "0", "7", ".", "e", "E", "x"} {
				longer = append(longer, s+piece)
			}
		}
		list = longer
		for _, s := range list {
			wantLike(t, s)
			c := cursor.New(s)
			got := jnum.Read(c)
			if is, right := got == s && c.End() == api.OK, json.Valid([]byte(s)); is != right {
				t.Errorf("%q: %q, end %d; the library: %v", s, got, c.End(), right)
			}
			if t.Failed() {
				return
			}
		}
	}
}

// 11.1: each text of one and of two bytes.
func TestReadOfBytes(t *testing.T) {
	for a := range 256 {
		wantLike(t, string([]byte{byte(a)}))
		for b := range 256 {
			wantLike(t, string([]byte{byte(a), byte(b)}))
		}
	}
}

// 11.1: bytes beyond a cursor's own lack, even if the text has them.
func TestReadWithinBounds(t *testing.T) {
	for _, s := range written {
		for few := 0; few <= len(s); few++ {
			c := cursor.New("9" + s + "9.9e9")
			c.Byte()
			d := c.Sub(few)
			size, code := meant(s[:few])
			got := jnum.Read(d)
			if got != s[:size] || d.Err() != code {
				t.Errorf("%d bytes of %q: %q, error %d; want %q, error %d", few, s, got, d.Err(), s[:size], code)
			}
			if code == api.OK && (d.At() != 1+size || d.Left() != few-size) {
				t.Errorf("%d bytes of %q: at %d, left %d", few, s, d.At(), d.Left())
			}
			if c.Err() != api.OK || c.At() != 1+few {
				t.Errorf("the cursor around these: error %d, at %d", c.Err(), c.At())
			}
		}
	}
	for _, one := range []struct {
		s    string
		n    int
		want string
		code api.Code
	}{
		{"12", 0, "", api.ErrCut},
		{"12", 1, "1", api.OK},
		{"-1", 1, "", api.ErrCut},
		{"1.5", 1, "1", api.OK},
		{"1.5", 2, "", api.ErrCut},
		{"1.55", 3, "1.5", api.OK},
		{"1e+55", 1, "1", api.OK},
		{"1e+55", 2, "", api.ErrCut},
		{"1e+55", 3, "", api.ErrCut},
		{"1e+55", 4, "1e+5", api.OK},
	} {
		c := cursor.New(one.s).Sub(one.n)
		if got := jnum.Read(c); got != one.want || c.Err() != one.code {
			t.Errorf("%d bytes of %q: %q, error %d; want %q, error %d", one.n, one.s, got, c.Err(), one.want, one.code)
		}
	}
}

// 11.1: a cursor that has an error keeps it, whatever stands there, and no number is read.
func TestReadOfFailed(t *testing.T) {
	for _, code := range []api.Code{api.ErrCut, api.ErrTail, api.ErrForm, api.ErrKind, api.ErrNone, api.ErrWeight, 99, -1} {
		for _, s := range []string{"", "0", "12", "-1.5e5", "x", "-", "1.", "1.x", "1e", "+1"} {
			c := cursor.New("7" + s)
			c.Byte()
			c.Fail(code)
			if got := jnum.Read(c); got != "" || c.Err() != code || c.At() != 1 || c.Left() != len(s) {
				t.Errorf("%q with error %d: %q, error %d, at %d, left %d", s, code, got, c.Err(), c.At(), c.Left())
			}
		}
	}
}

// 11.1 and R6: of a cursor that is nil no number, and no panic.
func TestReadOfNil(t *testing.T) {
	if got := jnum.Read(nil); got != "" {
		t.Errorf("%q", got)
	}
}

// 11.1: numbers are read one behind the other; behind one that failed none is read any more.
func TestReadOnAndOn(t *testing.T) {
	c := cursor.New("007-0-1.5-2e3-4")
	for _, want := range []string{"0", "0", "7", "-0", "-1.5", "-2e3", "-4"} {
		if got := jnum.Read(c); got != want || c.Err() != api.OK {
			t.Errorf("%q, error %d, want %q", got, c.Err(), want)
		}
	}
	if code := c.End(); code != api.OK {
		t.Error("all of it:", code)
	}
	for range 2 {
		if got := jnum.Read(c); got != "" || c.Err() != api.ErrCut {
			t.Errorf("behind all of it: %q, %d", got, c.Err())
		}
	}
	d := cursor.New("1.x5-6")
	for range 3 {
		if got := jnum.Read(d); got != "" || d.Err() != api.ErrForm {
			t.Errorf("behind what is wrong: %q, %d", got, d.Err())
		}
	}
}

// 11.1: parts of many digits each; what lacks or is wrong behind them is found there.
func TestReadLong(t *testing.T) {
	const many = 100000
	for _, digit := range []string{"0", "5", "9"} {
		run := strings.Repeat(digit, many)
		for _, s := range []string{"1" + run, "-1" + run, "0." + run, "1e" + run, "1E+" + run, "-1e-" + run, "1" + run + "." + run + "e-" + run} {
			for _, behind := range []string{"", "x", "-", "+1", " 0"} {
				wantRead(t, "", s, behind)
			}
		}
		wantFail(t, "", "1"+run+".", api.ErrCut)
		wantFail(t, "", "1."+run+"e", api.ErrCut)
		wantFail(t, "", "1."+run+"e-", api.ErrCut)
		wantFail(t, "", "1"+run+".x", api.ErrForm)
		wantFail(t, "", "1."+run+"ex", api.ErrForm)
		wantFail(t, "", "1."+run+"e+x", api.ErrForm)
		wantRead(t, "", "0", run)
	}
}

// wholes are texts with what they are worth written out.
var wholes = []struct {
	s    string
	n    int
	code api.Code
}{
	// The chapter's examples.
	{"1.50e1", 15, api.OK},
	{"0e-9", 0, api.OK},
	{"-0", 0, api.OK},
	{"15e-1", 0, api.ErrKind},
	{"1e19", 0, api.ErrRange},
	// As they stand.
	{"0", 0, api.OK},
	{"1", 1, api.OK},
	{"7", 7, api.OK},
	{"-1", -1, api.OK},
	{"10", 10, api.OK},
	{"100", 100, api.OK},
	{"-120", -120, api.OK},
	{"1234567890", 1234567890, api.OK},
	{"-1234567890", -1234567890, api.OK},
	// With a dot.
	{"1.0", 1, api.OK},
	{"1.000", 1, api.OK},
	{"-10.00", -10, api.OK},
	{"0.5", 0, api.ErrKind},
	{"-0.5", 0, api.ErrKind},
	{"1.5", 0, api.ErrKind},
	{"1.50", 0, api.ErrKind},
	{"1.01", 0, api.ErrKind},
	{"0.001", 0, api.ErrKind},
	// With a power.
	{"1e0", 1, api.OK},
	{"1e1", 10, api.OK},
	{"1E1", 10, api.OK},
	{"1e+1", 10, api.OK},
	{"1E+02", 100, api.OK},
	{"1e-0", 1, api.OK},
	{"1e-1", 0, api.ErrKind},
	{"10e-1", 1, api.OK},
	{"10e-2", 0, api.ErrKind},
	{"-100e-2", -1, api.OK},
	{"100e-3", 0, api.ErrKind},
	{"120e-1", 12, api.OK},
	{"120e-2", 0, api.ErrKind},
	{"12e3", 12000, api.OK},
	{"-12e003", -12000, api.OK},
	{"1e18", 1000000000000000000, api.OK},
	{"-1e18", -1000000000000000000, api.OK},
	{"9e18", 9000000000000000000, api.OK},
	{"10e18", 0, api.ErrRange},
	{"-1e19", 0, api.ErrRange},
	// With both.
	{"0.5e1", 5, api.OK},
	{"1.5e1", 15, api.OK},
	{"1.5e0", 0, api.ErrKind},
	{"1.25e1", 0, api.ErrKind},
	{"1.25e2", 125, api.OK},
	{"1.25e3", 1250, api.OK},
	{"-0.001e3", -1, api.OK},
	{"0.001e2", 0, api.ErrKind},
	{"10.0e-1", 1, api.OK},
	{"100.0e-2", 1, api.OK},
	{"100.0e-3", 0, api.ErrKind},
	{"10.10e1", 101, api.OK},
	{"0.10e1", 1, api.OK},
	{"0.100e1", 1, api.OK},
	{"0.010e1", 0, api.ErrKind},
	// The ends of what may be.
	{"9223372036854775806", math.MaxInt64 - 1, api.OK},
	{"9223372036854775807", math.MaxInt64, api.OK},
	{"9223372036854775808", 0, api.ErrRange},
	{"9223372036854775809", 0, api.ErrRange},
	{"9223372036854775810", 0, api.ErrRange},
	{"9999999999999999999", 0, api.ErrRange},
	{"10000000000000000000", 0, api.ErrRange},
	{"18446744073709551615", 0, api.ErrRange},
	{"18446744073709551616", 0, api.ErrRange},
	{"18446744073709551617", 0, api.ErrRange},
	{"-9223372036854775807", math.MinInt64 + 1, api.OK},
	{"-9223372036854775808", math.MinInt64, api.OK},
	{"-9223372036854775809", 0, api.ErrRange},
	{"-9999999999999999999", 0, api.ErrRange},
	{"-10000000000000000000", 0, api.ErrRange},
	{"-18446744073709551616", 0, api.ErrRange},
	{"9223372036854775807.0", math.MaxInt64, api.OK},
	{"9223372036854775807.000000", math.MaxInt64, api.OK},
	{"9223372036854775808.0", 0, api.ErrRange},
	{"-9223372036854775808.0", math.MinInt64, api.OK},
	{"-9223372036854775809.0", 0, api.ErrRange},
	{"9.223372036854775807e18", math.MaxInt64, api.OK},
	{"9.223372036854775808e18", 0, api.ErrRange},
	{"-9.223372036854775808e18", math.MinInt64, api.OK},
	{"-9.223372036854775809E+18", 0, api.ErrRange},
	{"922337203685477580.7e1", math.MaxInt64, api.OK},
	{"922337203685477580.8e1", 0, api.ErrRange},
	{"-0.09223372036854775808e20", math.MinInt64, api.OK},
	{"-0.09223372036854775809e20", 0, api.ErrRange},
	{"9223372036854775807000e-3", math.MaxInt64, api.OK},
	{"9223372036854775808000e-3", 0, api.ErrRange},
	{"-9223372036854775808000e-3", math.MinInt64, api.OK},
	{"-9223372036854775809000e-3", 0, api.ErrRange},
	{"922337203685477580e1", 9223372036854775800, api.OK},
	{"922337203685477581e1", 0, api.ErrRange},
	{"-922337203685477580e1", -9223372036854775800, api.OK},
	{"-922337203685477581e1", 0, api.ErrRange},
	{"9223372036854775807e0", math.MaxInt64, api.OK},
	{"9223372036854775807e1", 0, api.ErrRange},
	{"-9223372036854775808e-0", math.MinInt64, api.OK},
	{"9223372036854775807e-1", 0, api.ErrKind},
	{"9223372036854775807.5", 0, api.ErrKind},
	{"9223372036854775808.5", 0, api.ErrKind},
	{"-9223372036854775808.5", 0, api.ErrKind},
}

// 11.2: texts whose worth is written out, which is also what is made apart.
func TestWholeWritten(t *testing.T) {
	for _, one := range wholes {
		wantWhole(t, one.s, one.n, one.code)
		if n, code := worth(one.s); n != one.n || code != one.code {
			t.Errorf("%q is worth %d, %d; want %d, %d", one.s, n, code, one.n, one.code)
		}
	}
}

// 11.2: a nought is worth 0 in all ways of writing it, with any power.
func TestWholeNought(t *testing.T) {
	for _, s := range []string{"0", "-0", "0.0", "-0.0", "0.00", "0.000000000000000000000000000000", "-0." + strings.Repeat("0", 500)} {
		wantWhole(t, s, 0, api.OK)
		for _, power := range append([]string{"0", "00", "1", "01", "9", "10", "18", "19", "20", "1000", "0000000000000000000000000"}, greats()...) {
			for _, e := range []string{"e", "E", "e+", "E+", "e-", "E-"} {
				wantWhole(t, s+e+power, 0, api.OK)
			}
		}
	}
}

// greats are powers that no text of these tests has digits enough for: those around the places where numbers of so many
// bits, or sums with a few more, go round among them.
func greats() []string {
	list := []string{"99999", "4294967295", "4294967296", "4294967297", "0000000000000000000000000000000000000100000", strings.Repeat("9", 1000), "1" + strings.Repeat("0", 1000)}
	for _, bits := range []uint{31, 32, 61, 62, 63, 64, 65, 66, 128} {
		power := new(big.Int).Lsh(big.NewInt(1), bits)
		for more := int64(-25); more <= 25; more++ {
			list = append(list, new(big.Int).Add(power, big.NewInt(more)).String())
		}
	}
	return list
}

// 11.2: powers that are far too great or too small for the digits.
func TestWholeFar(t *testing.T) {
	many := strings.Repeat("0", 500)
	for _, s := range []string{"1", "9", "-1", "10", "-10", "12", "100", "0.1", "-0.1", "0.01", "1.0", "-1.5", "123.456", "9223372036854775807", "-9223372036854775808", "18446744073709551616", "1" + many, "-1" + many, "0." + many + "1", "-0." + many + "1", "1." + many} {
		for _, power := range greats() {
			for _, zeros := range []string{"", "00"} {
				for _, e := range []string{"e", "E+"} {
					wantWhole(t, s+e+zeros+power, 0, api.ErrRange)
				}
				for _, e := range []string{"e-", "E-"} {
					wantWhole(t, s+e+zeros+power, 0, api.ErrKind)
				}
			}
		}
	}
}

// 11.2: noughts ahead of a power's digits do not count.
func TestWholePowerNoughts(t *testing.T) {
	for _, zeros := range []string{"", "0", "00", strings.Repeat("0", 20), strings.Repeat("0", 5000)} {
		wantWhole(t, "1e"+zeros+"0", 1, api.OK)
		wantWhole(t, "1e"+zeros+"2", 100, api.OK)
		wantWhole(t, "-1E+"+zeros+"10", -10000000000, api.OK)
		wantWhole(t, "100e-"+zeros+"2", 1, api.OK)
		wantWhole(t, "100e-"+zeros+"3", 0, api.ErrKind)
		wantWhole(t, "1e"+zeros+"18", 1000000000000000000, api.OK)
		wantWhole(t, "1e"+zeros+"19", 0, api.ErrRange)
	}
}

// numbers are whole numbers' digits, those at the ends of what may be among them.
func numbers() []string {
	list := []string{"1", "2", "5", "9", "10", "11", "20", "99", "100", "101", "120", "1000", "1234567890", "1000000000000000000", "999999999999999999", "9000000000000000000", "922337203685477580", "922337203685477581"}
	for bits := uint(0); bits <= 66; bits++ {
		power := new(big.Int).Lsh(big.NewInt(1), bits)
		for more := int64(-1); more <= 1; more++ {
			if number := new(big.Int).Add(power, big.NewInt(more)); number.Sign() > 0 {
				list = append(list, number.String())
			}
		}
	}
	return list
}

// ways are texts that are worth as much as digits are, or, with one place more to the right, not as much: the dot goes so
// many places to the left, beyond their first one, too, with the power that makes up for it; or as many noughts stand
// behind them.
func ways(digits string, places, more int) []string {
	zeros := strings.Repeat("0", places)
	long := zeros + digits
	cut := len(long) - places
	whole := strings.TrimLeft(long[:cut], "0")
	if whole == "" {
		whole = "0"
	}
	power := strconv.Itoa(places - more)
	back := strconv.Itoa(places + more)
	list := []string{digits + zeros + "e-" + back, digits + zeros + ".00E-0" + back}
	if places > 0 {
		list = append(list, whole+"."+long[cut:]+"e"+power, whole+"."+long[cut:]+"000e"+power)
	}
	if places > 0 && places >= more {
		list = append(list, whole+"."+long[cut:]+"00000000000000000000E+"+power, whole+"."+long[cut:]+"e000"+power)
	}
	return list
}

// 11.2: all kinds of numbers, in ways of writing that are worth as much: as they are, with noughts behind a dot, with the
// dot elsewhere, with noughts and a power that takes them away.
func TestWholeWays(t *testing.T) {
	for _, number := range numbers() {
		for _, digits := range []string{number, "-" + number} {
			sign := strings.TrimSuffix(digits, number)
			want, code := worth(digits)
			if n, err := strconv.ParseInt(digits, 10, 64); (err == nil) != (code == api.OK) || code == api.OK && int(n) != want {
				t.Errorf("%q: the library reads %d, %v; want %d, %d", digits, n, err, want, code)
			}
			for _, s := range []string{digits, digits + ".0", digits + ".00000000000000000000000000", digits + "e0", digits + "E-0", digits + "e+00", digits + ".0e0"} {
				wantWhole(t, s, want, code)
			}
			for places := range 45 {
				for _, s := range ways(number, places, 0) {
					wantWhole(t, sign+s, want, code)
				}
			}
		}
	}
}

// 11.2: one nought too few for the power, or one place of the dot too many.
func TestWholeOneTooFew(t *testing.T) {
	for _, number := range numbers() {
		number = strings.TrimRight(number, "0")
		for _, sign := range []string{"", "-"} {
			for places := range 45 {
				for _, s := range ways(number, places, 1) {
					wantWhole(t, sign+s, 0, api.ErrKind)
				}
			}
		}
	}
}

// 11.2: parts of all kinds against what they are worth as fractions.
func TestWholeParts(t *testing.T) {
	powers := []string{"", "e007", "E+00", "e-00", "e100", "e-100", "e1000", "E-1000"}
	for power := range 25 {
		powers = append(powers, "e"+strconv.Itoa(power), "E+"+strconv.Itoa(power), "e-"+strconv.Itoa(power))
	}
	for _, sign := range []string{"", "-"} {
		for _, whole := range []string{"0", "1", "5", "10", "12", "100", "120", "92", "93", "922", "9223372036854775807", "9223372036854775808", "9223372036854775809", "9300000000000000000", "10000000000000000000", "92233720368547758070000"} {
			for _, part := range []string{"", ".0", ".5", ".00", ".05", ".50", ".125", ".0070", ".23372036854775807", ".23372036854775808", ".23372036854775809", ".000000000000000000001", ".0000000000000000000000"} {
				for _, power := range powers {
					wantWorth(t, sign+whole+part+power)
				}
			}
		}
	}
}

// 11.2: each text of up to six out of the bytes that matter, and one that does not.
func TestWholeOfFew(t *testing.T) {
	list := []string{""}
	wantWorth(t, "")
	for range 6 {
		var longer []string
		for _, s := range list {
			for _, piece := range []string{"-", "+", "0", "1", "2", ".", "e", "x"} {
				longer = append(longer, s+piece)
			}
		}
		list = longer
		for _, s := range list {
			if wantWorth(t, s); t.Failed() {
				return
			}
		}
	}
}

// 11.2: texts of many digits of which but few count, and of many that do.
func TestWholeLong(t *testing.T) {
	const many = 100000
	zeros, nines := strings.Repeat("0", many), strings.Repeat("9", many)
	for _, one := range []struct {
		s    string
		n    int
		code api.Code
	}{
		{"1" + zeros + "e-100000", 1, api.OK},
		{"-12" + zeros + "e-99998", -1200, api.OK},
		{"1" + zeros + "e-99982", 1000000000000000000, api.OK},
		{"1" + zeros + "e-99981", 0, api.ErrRange},
		{"1" + zeros + "e-100001", 0, api.ErrKind},
		{"1" + zeros, 0, api.ErrRange},
		{"-1" + zeros, 0, api.ErrRange},
		{"9223372036854775807" + zeros + "e-100000", math.MaxInt64, api.OK},
		{"9223372036854775808" + zeros + "e-100000", 0, api.ErrRange},
		{"-9223372036854775808" + zeros + "e-100000", math.MinInt64, api.OK},
		{"-9223372036854775809" + zeros + "e-100000", 0, api.ErrRange},
		{"1." + zeros, 1, api.OK},
		{"9223372036854775807." + zeros, math.MaxInt64, api.OK},
		{"9223372036854775808." + zeros, 0, api.ErrRange},
		{"-9223372036854775808." + zeros, math.MinInt64, api.OK},
		{"1." + zeros + "1", 0, api.ErrKind},
		{"1." + zeros + "e18", 1000000000000000000, api.OK},
		{"1." + zeros + "e19", 0, api.ErrRange},
		{"1." + zeros + "e-1", 0, api.ErrKind},
		{"0." + zeros, 0, api.OK},
		{"-0." + zeros + "e" + nines, 0, api.OK},
		{"0." + zeros + "1e100001", 1, api.OK},
		{"-0." + zeros + "9223372036854775808e100019", math.MinInt64, api.OK},
		{"0." + zeros + "9223372036854775808e100019", 0, api.ErrRange},
		{"0." + zeros + "1e100000", 0, api.ErrKind},
		{"0." + zeros + "1e100019", 1000000000000000000, api.OK},
		{"0." + zeros + "1e100020", 0, api.ErrRange},
		{"0." + zeros + "1" + zeros + "e100001", 1, api.OK},
		{"10" + zeros + "." + zeros + "e-100001", 1, api.OK},
		{"10" + zeros + "." + zeros + "e-100002", 0, api.ErrKind},
		{"1" + zeros + "." + zeros + "1e-100000", 0, api.ErrKind},
		{nines, 0, api.ErrRange},
		{"-" + nines, 0, api.ErrRange},
		{nines + zeros + "e-100000", 0, api.ErrRange},
		{nines + ".5", 0, api.ErrKind},
		{nines + "e-1", 0, api.ErrKind},
		{"0." + nines, 0, api.ErrKind},
		{"0." + nines + "e99999", 0, api.ErrKind},
		{"0." + nines + "e100000", 0, api.ErrRange},
		{"1e" + nines, 0, api.ErrRange},
		{"1e-" + nines, 0, api.ErrKind},
		{"1e" + zeros, 1, api.OK},
		{"1e" + zeros + "3", 1000, api.OK},
		{"1000e-" + zeros + "3", 1, api.OK},
		{nines + "x", 0, api.ErrForm},
		{"0" + zeros, 0, api.ErrForm},
		{zeros + "1", 0, api.ErrForm},
		{"1e" + nines + ".", 0, api.ErrForm},
		{"1." + zeros + "e", 0, api.ErrForm},
	} {
		wantWhole(t, one.s, one.n, one.code)
	}
}

// 11.2: what is no number's text, whatever it would be worth: ErrForm, ahead of ErrKind and ErrRange.
func TestWholeForm(t *testing.T) {
	for _, s := range append(append([]string{}, cut...), noForm...) {
		wantWhole(t, s, 0, api.ErrForm)
	}
	for _, one := range wholes {
		for _, wrong := range append([]string{".", "e", "e+", "E-", ".e1"}, wrongs...) {
			wantWhole(t, one.s+wrong, 0, api.ErrForm)
		}
		for _, wrong := range []string{"+", "--", "0", "00", " ", "\t", "\n", "\r", "a", "e", ".", "\x00", "\xff", "0 ", "1 "} {
			wantWhole(t, wrong+one.s, 0, api.ErrForm)
		}
	}
	for _, s := range []string{"1.5", "15e-1", "1e19", "99999999999999999999", "99999999999999999999.5", "1e99999999999999999999", "1e-99999999999999999999"} {
		for _, more := range []string{"x", " ", "\n", ",", "+", "-", "-1", "e", ".", "\x00", "\xff"} {
			wantWhole(t, s+more, 0, api.ErrForm)
		}
		for _, ahead := range []string{"+", " ", "0", "-0", "--", "x"} {
			wantWhole(t, ahead+s, 0, api.ErrForm)
		}
	}
}

// 11.2: what is no whole number is ErrKind, ahead of ErrRange, however far it is beyond all of these.
func TestWholeKind(t *testing.T) {
	for _, s := range []string{
		"9223372036854775807.5", "9223372036854775808.5", "99999999999999999999.5", "1234567890123456789012345678901e-1",
		"123456789012345678901234567890.00000000000000001e16", "1234567890123456789012345678901234567890E-20", "0.12345678901234567890123456789012345e+34",
	} {
		for _, sign := range []string{"", "-"} {
			wantWhole(t, sign+s, 0, api.ErrKind)
			wantWhole(t, sign+s+".", 0, api.ErrForm)
			wantWorth(t, sign+s)
		}
	}
}

// 11.2: each byte at each place of some texts, in the place of another one and ahead of it.
func TestWholeEachByte(t *testing.T) {
	for _, s := range []string{"0", "-0", "12", "-120", "1.50e1", "10.0E-1", "1e+18", "9223372036854775807", "-9223372036854775808"} {
		for at := 0; at <= len(s); at++ {
			for i := range 256 {
				b := string([]byte{byte(i)})
				wantWorth(t, s[:at]+b+s[at:])
				if at < len(s) {
					wantWorth(t, s[:at]+b+s[at+1:])
				}
			}
		}
	}
}

// 11.1, 11.2: what is read is a number's text for Whole, too, and nothing else of these is.
func TestReadAndWhole(t *testing.T) {
	for _, s := range written {
		for _, behind := range behinds {
			if _, code := jnum.Whole(jnum.Read(cursor.New(s + behind))); code == api.ErrForm {
				t.Errorf("%q of %q is no number's text", s, s+behind)
			}
			if _, code := jnum.Whole(s + behind); (code == api.ErrForm) != (behind != "") {
				t.Errorf("%q: %d", s+behind, code)
			}
		}
	}
}
