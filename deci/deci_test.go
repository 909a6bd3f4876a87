package deci_test

import (
	"bytes"
	"math"
	"math/big"
	"math/bits"
	"slices"
	"strings"
	"testing"

	"truchman/api"
	"truchman/deci"
)

// written are whole numbers with their digits written out.
var written = []struct {
	n      int
	digits string
}{
	{0, "0"},
	{1, "1"},
	{5, "5"},
	{9, "9"},
	{10, "10"},
	{11, "11"},
	{99, "99"},
	{100, "100"},
	{101, "101"},
	{1000, "1000"},
	{65536, "65536"},
	{1234567890, "1234567890"},
	{9876543210, "9876543210"},
	{2147483647, "2147483647"},
	{2147483648, "2147483648"},
	{4294967295, "4294967295"},
	{4294967296, "4294967296"},
	{999999999999999999, "999999999999999999"},
	{1000000000000000000, "1000000000000000000"},
	{9223372036854775799, "9223372036854775799"},
	{9223372036854775800, "9223372036854775800"},
	{9223372036854775806, "9223372036854775806"},
	{9223372036854775807, "9223372036854775807"},
	{-1, "-1"},
	{-5, "-5"},
	{-9, "-9"},
	{-10, "-10"},
	{-11, "-11"},
	{-99, "-99"},
	{-100, "-100"},
	{-1234567890, "-1234567890"},
	{-2147483648, "-2147483648"},
	{-1000000000000000000, "-1000000000000000000"},
	{-9223372036854775800, "-9223372036854775800"},
	{-9223372036854775807, "-9223372036854775807"},
	{-9223372036854775808, "-9223372036854775808"},
}

// writtenU are numbers from 0 on that are none of those, with their digits written out.
var writtenU = []struct {
	u      uint64
	digits string
}{
	{9223372036854775808, "9223372036854775808"},
	{9223372036854775809, "9223372036854775809"},
	{9999999999999999999, "9999999999999999999"},
	{10000000000000000000, "10000000000000000000"},
	{18446744073709551609, "18446744073709551609"},
	{18446744073709551610, "18446744073709551610"},
	{18446744073709551614, "18446744073709551614"},
	{18446744073709551615, "18446744073709551615"},
}

// numbers are those around each power of 10, 2 and 3, and the greatest: those that have a sign stand among them by
// their bits.
func numbers() []uint64 {
	list := []uint64{0, math.MaxUint64, math.MaxUint64 - 1, math.MaxInt64 - 1, 0x0102030405060708, 0xf1e2d3c4b5a69788}
	for _, base := range []uint64{2, 3, 10} {
		over, power := uint64(0), uint64(1)
		for over == 0 {
			list = append(list, power-1, power, power+1, -power-1, -power, -power+1)
			over, power = bits.Mul64(power, base)
		}
	}
	slices.Sort(list)
	return slices.Compact(list)
}

// digitsOf tells a number's digits: how often the greatest power of 10 goes into it, then how often the next one into
// what is left.
func digitsOf(u uint64) string {
	power := uint64(10000000000000000000)
	var list []byte
	for power > 0 {
		digit := byte('0')
		for u >= power {
			u -= power
			digit++
		}
		if digit > '0' || list != nil || power == 1 {
			list = append(list, digit)
		}
		power /= 10
	}
	return string(list)
}

// signedOf tells a whole number's digits.
func signedOf(n int) string {
	if n < 0 {
		// One more than n has a number of its size above 0, whatever n is.
		return "-" + digitsOf(uint64(-(n+1))+1)
	}
	return digitsOf(uint64(n))
}

// The digits that the tests hold the program against are themselves those that are written out, and the library's.
func TestDigitsOf(t *testing.T) {
	for _, one := range written {
		if s := signedOf(one.n); s != one.digits {
			t.Errorf("%q, want %q", s, one.digits)
		}
	}
	for _, one := range writtenU {
		if s := digitsOf(one.u); s != one.digits {
			t.Errorf("%q, want %q", s, one.digits)
		}
	}
	for _, u := range numbers() {
		if s, want := digitsOf(u), new(big.Int).SetUint64(u).String(); s != want {
			t.Errorf("%q, want %q", s, want)
		}
		if s, want := signedOf(int(u)), big.NewInt(int64(u)).String(); s != want {
			t.Errorf("%q, want %q", s, want)
		}
	}
}

// wantRead reads a text by both calls, and holds what they tell against what the numbers' digits say: a text is a
// number's digits if it is what that number is written as.
func wantRead(t *testing.T, s string) {
	number, is := new(big.Int).SetString(s, 10)
	is = is && number.String() == s
	n, code := 0, api.ErrForm
	u, codeU := uint64(0), api.ErrForm
	switch {
	case !is:
	case number.IsInt64():
		n, code = int(number.Int64()), api.OK
	default:
		code = api.ErrRange
	}
	switch {
	case !is || number.Sign() < 0:
	case number.IsUint64():
		u, codeU = number.Uint64(), api.OK
	default:
		codeU = api.ErrRange
	}
	if got, gotCode := deci.Read(s); got != n || gotCode != code {
		t.Errorf("Read(%q): %d, %d; want %d, %d", s, got, gotCode, n, code)
	}
	if got, gotCode := deci.ReadU(s); got != u || gotCode != codeU {
		t.Errorf("ReadU(%q): %d, %d; want %d, %d", s, got, gotCode, u, codeU)
	}
}

// wantForm reads what is no number's digits.
func wantForm(t *testing.T, s string) {
	if n, code := deci.Read(s); n != 0 || code != api.ErrForm {
		t.Errorf("Read(%q): %d, %d; want ErrForm", s, n, code)
	}
	if u, code := deci.ReadU(s); u != 0 || code != api.ErrForm {
		t.Errorf("ReadU(%q): %d, %d; want ErrForm", s, u, code)
	}
}

// 6.1 and 6.2: digits written out, there and back.
func TestWritten(t *testing.T) {
	for _, one := range written {
		if got := deci.Put(nil, one.n); string(got) != one.digits {
			t.Errorf("Put(nil, %d): %q, want %q", one.n, got, one.digits)
		}
		if n, code := deci.Read(one.digits); n != one.n || code != api.OK {
			t.Errorf("Read(%q): %d, %d", one.digits, n, code)
		}
		if one.n < 0 {
			if u, code := deci.ReadU(one.digits); u != 0 || code != api.ErrForm {
				t.Errorf("ReadU(%q): %d, %d; want ErrForm", one.digits, u, code)
			}
			continue
		}
		if got := deci.PutU(nil, uint64(one.n)); string(got) != one.digits {
			t.Errorf("PutU(nil, %d): %q, want %q", one.n, got, one.digits)
		}
		if u, code := deci.ReadU(one.digits); u != uint64(one.n) || code != api.OK {
			t.Errorf("ReadU(%q): %d, %d", one.digits, u, code)
		}
	}
	for _, one := range writtenU {
		if got := deci.PutU(nil, one.u); string(got) != one.digits {
			t.Errorf("PutU(nil, %d): %q, want %q", one.u, got, one.digits)
		}
		if u, code := deci.ReadU(one.digits); u != one.u || code != api.OK {
			t.Errorf("ReadU(%q): %d, %d", one.digits, u, code)
		}
		if n, code := deci.Read(one.digits); n != 0 || code != api.ErrRange {
			t.Errorf("Read(%q): %d, %d; want ErrRange", one.digits, n, code)
		}
	}
}

// 6.1: behind no bytes, and behind some, of any kind, stand the digits of any number.
func TestPutBehind(t *testing.T) {
	for _, b := range [][]byte{nil, {}, {0}, {255}, []byte("abc"), []byte("-"), []byte("0"), []byte("12"), bytes.Repeat([]byte{200}, 100)} {
		for _, u := range numbers() {
			if got, want := deci.PutU(b, u), string(b)+digitsOf(u); string(got) != want {
				t.Errorf("PutU(%q, %d): %q, want %q", b, u, got, want)
			}
			if got, want := deci.Put(b, int(u)), string(b)+signedOf(int(u)); string(got) != want {
				t.Errorf("Put(%q, %d): %q, want %q", b, int(u), got, want)
			}
		}
	}
}

// 6.1 and 6.2: the numbers of few digits, all of them, there and back.
func TestFewDigits(t *testing.T) {
	for n := -12000; n <= 12000; n++ {
		s := signedOf(n)
		if got := deci.Put(nil, n); string(got) != s {
			t.Errorf("Put(nil, %d): %q", n, got)
		}
		if got := deci.PutU(nil, uint64(max(0, n))); n >= 0 && string(got) != s {
			t.Errorf("PutU(nil, %d): %q", n, got)
		}
		wantRead(t, s)
	}
}

// 6.1: numbers are put one behind the other.
func TestPutOnAndOn(t *testing.T) {
	got := deci.Put(deci.PutU(deci.Put(deci.Put(deci.PutU(nil, 0), -10), math.MinInt), math.MaxUint64), 7)
	if want := "0-10-9223372036854775808184467440737095516157"; string(got) != want {
		t.Errorf("%q, want %q", got, want)
	}
}

// puts are calls that lay digits.
var puts = []struct {
	put    func(b []byte) []byte
	digits string
}{
	{func(b []byte) []byte { return deci.Put(b, 0) }, "0"},
	{func(b []byte) []byte { return deci.Put(b, -1) }, "-1"},
	{func(b []byte) []byte { return deci.Put(b, math.MaxInt) }, "9223372036854775807"},
	{func(b []byte) []byte { return deci.Put(b, math.MinInt) }, "-9223372036854775808"},
	{func(b []byte) []byte { return deci.PutU(b, 0) }, "0"},
	{func(b []byte) []byte { return deci.PutU(b, 42) }, "42"},
	{func(b []byte) []byte { return deci.PutU(b, math.MaxUint64) }, "18446744073709551615"},
}

// 6.1 and R3: a new list: neither b, nor what lies behind its length, is written to, and no answer shares with b, or
// with another answer.
func TestPutApart(t *testing.T) {
	for i, first := range puts {
		second := puts[(i+1)%len(puts)]
		for _, have := range []int{0, 3, 20} {
			const all = "abcdefghijklmnopqrstuvwxyzabcdefghijklmnopqrstuvwxyz"
			whole := []byte(all)
			b := whole[:have]
			one, other := first.put(b), second.put(b)
			if string(whole) != all {
				t.Errorf("laying %s writes to what it was handed: %q", first.digits, whole)
			}
			if want := all[:have] + first.digits; string(one) != want {
				t.Errorf("the first answer changed with the second: %q, want %q", one, want)
			}
			for k := range one {
				one[k] = 'X'
			}
			for k := range whole {
				whole[k] = 'Y'
			}
			if want := all[:have] + second.digits; string(other) != want {
				t.Errorf("the second answer changed with the first, or with b: %q, want %q", other, want)
			}
		}
	}
}

// 6.1 and R3: what lay behind b's length is not handed out behind the answer's.
func TestPutHidesRest(t *testing.T) {
	whole := bytes.Repeat([]byte{'s'}, 64)
	for _, one := range puts {
		got := one.put(whole[:2])
		if rest := got[len(got):cap(got)]; bytes.Contains(rest, []byte{'s'}) {
			t.Errorf("laying %s hands out %q", one.digits, rest)
		}
	}
}

// 6.2: any number is read of its digits, by the call that has it.
func TestReadBack(t *testing.T) {
	for _, u := range numbers() {
		if got, code := deci.ReadU(digitsOf(u)); got != u || code != api.OK {
			t.Errorf("ReadU(%q): %d, %d", digitsOf(u), got, code)
		}
		if got, code := deci.Read(signedOf(int(u))); got != int(u) || code != api.OK {
			t.Errorf("Read(%q): %d, %d", signedOf(int(u)), got, code)
		}
	}
}

// 6.2: what is next beyond the numbers' ends, and far beyond, is of no call: ErrRange.
func TestReadRange(t *testing.T) {
	for _, one := range []struct {
		s           string
		code, codeU api.Code
	}{
		{"9223372036854775807", api.OK, api.OK},
		{"9223372036854775808", api.ErrRange, api.OK},
		{"9223372036854775809", api.ErrRange, api.OK},
		{"9223372036854775810", api.ErrRange, api.OK},
		{"9999999999999999999", api.ErrRange, api.OK},
		{"10000000000000000000", api.ErrRange, api.OK},
		{"18446744073709551615", api.ErrRange, api.OK},
		{"18446744073709551616", api.ErrRange, api.ErrRange},
		{"18446744073709551617", api.ErrRange, api.ErrRange},
		{"18446744073709551620", api.ErrRange, api.ErrRange},
		{"18446744073709551626", api.ErrRange, api.ErrRange},
		{"20000000000000000000", api.ErrRange, api.ErrRange},
		{"27670116110564327424", api.ErrRange, api.ErrRange},
		{"36893488147419103232", api.ErrRange, api.ErrRange},
		{"36893488147419103233", api.ErrRange, api.ErrRange},
		{"99999999999999999999", api.ErrRange, api.ErrRange},
		{"100000000000000000000", api.ErrRange, api.ErrRange},
		{"184467440737095516150", api.ErrRange, api.ErrRange},
		{"184467440737095516160", api.ErrRange, api.ErrRange},
		{"340282366920938463463374607431768211456", api.ErrRange, api.ErrRange},
		{"-9223372036854775808", api.OK, api.ErrForm},
		{"-9223372036854775809", api.ErrRange, api.ErrForm},
		{"-9223372036854775810", api.ErrRange, api.ErrForm},
		{"-9999999999999999999", api.ErrRange, api.ErrForm},
		{"-10000000000000000000", api.ErrRange, api.ErrForm},
		{"-18446744073709551615", api.ErrRange, api.ErrForm},
		{"-18446744073709551616", api.ErrRange, api.ErrForm},
		{"-18446744073709551617", api.ErrRange, api.ErrForm},
		{"-36893488147419103232", api.ErrRange, api.ErrForm},
	} {
		n, code := deci.Read(one.s)
		if code != one.code || code != api.OK && n != 0 {
			t.Errorf("Read(%q): %d, %d; want %d", one.s, n, code, one.code)
		}
		u, codeU := deci.ReadU(one.s)
		if codeU != one.codeU || codeU != api.OK && u != 0 {
			t.Errorf("ReadU(%q): %d, %d; want %d", one.s, u, codeU, one.codeU)
		}
		wantRead(t, one.s)
	}
}

// 6.2: the digits around multiples of 2^63 and 2^64, by which sums that wrap round would look like small numbers.
func TestReadAroundWraps(t *testing.T) {
	half := new(big.Int).Lsh(big.NewInt(1), 63)
	for times := int64(-50); times <= 50; times++ {
		for off := int64(-12); off <= 12; off++ {
			number := new(big.Int).Mul(half, big.NewInt(times))
			wantRead(t, number.Add(number, big.NewInt(off)).String())
		}
	}
}

// 6.2: all numbers of digits that are the same, of one digit to many more than fit.
func TestReadOfManyDigits(t *testing.T) {
	for _, ahead := range []string{"", "-"} {
		for digit := '0'; digit <= '9'; digit++ {
			for count := 1; count <= 70; count++ {
				wantRead(t, ahead+strings.Repeat(string(digit), count))
				wantRead(t, ahead+"1"+strings.Repeat(string(digit), count))
			}
		}
	}
	many := "1" + strings.Repeat("0", 200000)
	if n, code := deci.Read(many); n != 0 || code != api.ErrRange {
		t.Errorf("Read of many digits: %d, %d", n, code)
	}
	if n, code := deci.Read("-" + many); n != 0 || code != api.ErrRange {
		t.Errorf("Read of - and many digits: %d, %d", n, code)
	}
	if u, code := deci.ReadU(many); u != 0 || code != api.ErrRange {
		t.Errorf("ReadU of many digits: %d, %d", u, code)
	}
}

// 6.2: what is no number's digits.
func TestReadForm(t *testing.T) {
	for _, s := range []string{
		"", "-", "+", "--", "+-", "-+", "--1", "-+1", "+-1", "- 1", "-0", "--0", "+0", "-00", "00", "000", "01", "007", "-007",
		"-01", "0-", "1-", "5-", "+5", "+1", "+9223372036854775807", " ", " 5", "5 ", "1 2", "\t5", "5\n", "\n", "1,000",
		"1_000", "_1", "1_", "0x10", "0b1", "0o7", "1.", "1.0", ".5", "1e3", "1E3", "0e0", "a", "f", "1a", "a1", "inf", "NaN",
		"\x00", "1\x00", "\x001", "\xff", "1\xff", "\x80", "/", ":", "1/", "/1", "1:", ":1", "\xb1", "1\xb1", "\u0661", "\uff11",
		"1\uff11", "\u00b2", "\u2212" + "1", "\ufeff1", "\"1\"", "null", "-a", "-\x00", "-/", "-:", "-1-", "-1 ", "-1.0", "1-1",
	} {
		wantForm(t, s)
		wantRead(t, s)
	}
}

// 6.2: a 0 ahead of others makes any digits none, with - or without it; so does + ahead.
func TestReadAhead(t *testing.T) {
	for _, u := range numbers() {
		for _, ahead := range []string{"0", "00", "-0", "-00", "+", "--", "0-", "-+", " ", "- "} {
			wantForm(t, ahead+digitsOf(u))
		}
	}
}

// 6.2: each byte that is no digit, ahead of digits, at each place within them, and behind, makes all of it none, as one
// more and in place of a digit; but for - ahead, of Read.
func TestReadAnotherByte(t *testing.T) {
	for _, digits := range []string{"7", "10", "12345", "9223372036854775807", "18446744073709551616"} {
		for c := range 256 {
			b := string([]byte{byte(c)})
			if strings.Contains("0123456789", b) {
				continue
			}
			for at := range len(digits) + 1 {
				s := digits[:at] + b + digits[at:]
				wantRead(t, s)
				if s != "-"+digits {
					wantForm(t, s)
				}
				wantForm(t, "-"+digits[:at]+b+digits[at:])
				if 0 < at && at < len(digits) {
					wantForm(t, digits[:at]+b+digits[at+1:])
				}
			}
		}
	}
}

// 6.2: ErrForm goes ahead of ErrRange: of more digits than fit, with one byte far behind that is none, it is ErrForm.
func TestReadFormAhead(t *testing.T) {
	many := strings.Repeat("9", 100000)
	for _, s := range []string{
		"99999999999999999999x", "-99999999999999999999x", "18446744073709551616 ", "9223372036854775808-", "-9223372036854775809.",
		"099999999999999999999", "-099999999999999999999", "+99999999999999999999", "00000000000000000000000000",
		many + "a", "-" + many + "a", many + "-", many + " " + many, "0" + many, "-0" + many, "+" + many,
	} {
		wantForm(t, s)
	}
	if u, code := deci.ReadU("-99999999999999999999"); u != 0 || code != api.ErrForm {
		t.Errorf("ReadU of a number far below 0: %d, %d; want ErrForm", u, code)
	}
}

// 6.2: each text of no to four bytes out of some that matter.
func TestReadOfFew(t *testing.T) {
	list := []string{""}
	for range 4 {
		for _, s := range list {
			wantRead(t, s)
		}
		var longer []string
		for _, s := range list {
			for _, c := range []string{"0", "1", "5", "9", "-", "+", " ", "_", ".", "e", "x", "/", ":", "\xb0"} {
				longer = append(longer, s+c)
			}
		}
		list = longer
	}
	for _, s := range list {
		wantRead(t, s)
	}
}

// 6.2: each text of one byte, and of two.
func TestReadOfBytes(t *testing.T) {
	for a := range 256 {
		wantRead(t, string([]byte{byte(a)}))
		for b := range 256 {
			wantRead(t, string([]byte{byte(a), byte(b)}))
		}
	}
}
