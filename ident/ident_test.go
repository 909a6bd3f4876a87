package ident_test

import (
	"encoding/binary"
	"encoding/hex"
	"math"
	"strings"
	"testing"

	"truchman/api"
	"truchman/ident"
)

// The digits of names that name nothing.
const (
	spanZeros  = "0000000000000000"
	traceZeros = "00000000000000000000000000000000"
)

// traces are names of traces with their digits and the numbers of their halves written out.
var traces = []struct {
	digits    string
	t         api.TraceID
	high, low uint64
}{
	{"000000000000000000000000000000ff", api.TraceID{15: 255}, 0, 255},
	{"00000000000000000000000000000001", api.TraceID{15: 1}, 0, 1},
	{"00000000000000008000000000000000", api.TraceID{8: 128}, 0, 1 << 63},
	{"0000000000000000ffffffffffffffff", api.TraceID{8: 255, 255, 255, 255, 255, 255, 255, 255}, 0, math.MaxUint64},
	{"00000000000000010000000000000000", api.TraceID{7: 1}, 1, 0},
	{"80000000000000000000000000000000", api.TraceID{0: 128}, 1 << 63, 0},
	{"ffffffffffffffff0000000000000000", api.TraceID{255, 255, 255, 255, 255, 255, 255, 255}, math.MaxUint64, 0},
	{
		"ffffffffffffffffffffffffffffffff",
		api.TraceID{255, 255, 255, 255, 255, 255, 255, 255, 255, 255, 255, 255, 255, 255, 255, 255},
		math.MaxUint64, math.MaxUint64,
	},
	{
		"0af7651916cd43dd8448eb211c80319c",
		api.TraceID{10, 247, 101, 25, 22, 205, 67, 221, 132, 72, 235, 33, 28, 128, 49, 156},
		0x0af7651916cd43dd, 0x8448eb211c80319c,
	},
	{
		"000102030405060708090a0b0c0d0e0f",
		api.TraceID{0, 1, 2, 3, 4, 5, 6, 7, 8, 9, 10, 11, 12, 13, 14, 15},
		0x0001020304050607, 0x08090a0b0c0d0e0f,
	},
}

// spans are names of spans with their digits and numbers written out.
var spans = []struct {
	digits string
	x      api.SpanID
	u      uint64
}{
	{"00000000000000ff", api.SpanID{7: 255}, 255},
	{"0000000000000001", api.SpanID{7: 1}, 1},
	{"0000000000000100", api.SpanID{6: 1}, 256},
	{"0100000000000000", api.SpanID{0: 1}, 1 << 56},
	{"8000000000000000", api.SpanID{0: 128}, 1 << 63},
	{"7fffffffffffffff", api.SpanID{127, 255, 255, 255, 255, 255, 255, 255}, math.MaxInt64},
	{"ffffffffffffffff", api.SpanID{255, 255, 255, 255, 255, 255, 255, 255}, math.MaxUint64},
	{"b7ad6b7169203331", api.SpanID{183, 173, 107, 113, 105, 32, 51, 49}, 13235353014750950193},
	{"0102030405060708", api.SpanID{1, 2, 3, 4, 5, 6, 7, 8}, 72623859790382856},
}

// numbers are those that an eight-byte name may be: the edges, those of a single bit, and some with all bytes unlike.
func numbers() []uint64 {
	list := []uint64{0, math.MaxUint64, math.MaxUint64 - 1, math.MaxInt64, 0x0102030405060708, 0xf1e2d3c4b5a69788}
	for bit := range 64 {
		list = append(list, 1<<bit, 1<<bit-1, math.MaxUint64-1<<bit)
	}
	return list
}

// spanOf tells the eight bytes of a number apart from the code.
func spanOf(u uint64) (x api.SpanID) {
	binary.BigEndian.PutUint64(x[:], u)
	return x
}

// traceOf tells the sixteen bytes of two numbers apart from the code.
func traceOf(high, low uint64) (t api.TraceID) {
	binary.BigEndian.PutUint64(t[:8], high)
	binary.BigEndian.PutUint64(t[8:], low)
	return t
}

func wantTrace(t *testing.T, s string, want api.TraceID, code api.Code) {
	t.Helper()
	if got, gotCode := ident.ReadTrace(s); got != want || gotCode != code {
		t.Errorf("ReadTrace(%q): %v, %d; want %v, %d", s, got, gotCode, want, code)
	}
}

func wantSpan(t *testing.T, s string, want api.SpanID, code api.Code) {
	t.Helper()
	if got, gotCode := ident.ReadSpan(s); got != want || gotCode != code {
		t.Errorf("ReadSpan(%q): %v, %d; want %v, %d", s, got, gotCode, want, code)
	}
}

// wantForm reads what is no name's digits, neither a trace's nor a span's.
func wantForm(t *testing.T, s string) {
	t.Helper()
	wantTrace(t, s, api.TraceID{}, api.ErrForm)
	wantSpan(t, s, api.SpanID{}, api.ErrForm)
}

// 7.1: names of traces written out, there and back.
func TestTraceWritten(t *testing.T) {
	for _, one := range traces {
		if got := ident.TraceText(one.t); got != one.digits {
			t.Errorf("TraceText(%v): %q, want %q", one.t, got, one.digits)
		}
		wantTrace(t, one.digits, one.t, api.OK)
	}
}

// 7.1: names of spans written out, there and back; of a trace their digits are the last half, and the first one is 0.
func TestSpanWritten(t *testing.T) {
	for _, one := range spans {
		if got := ident.SpanText(one.x); got != one.digits {
			t.Errorf("SpanText(%v): %q, want %q", one.x, got, one.digits)
		}
		wantSpan(t, one.digits, one.x, api.OK)
		var want api.TraceID
		copy(want[8:], one.x[:])
		wantTrace(t, one.digits, want, api.OK)
	}
}

// 7.1: names whose bytes are all 0 have digits, which are read as ErrID, as of any other length they are ErrForm.
func TestNothing(t *testing.T) {
	if got := ident.TraceText(api.TraceID{}); got != traceZeros {
		t.Errorf("TraceText of nothing: %q", got)
	}
	if got := ident.SpanText(api.SpanID{}); got != spanZeros {
		t.Errorf("SpanText of nothing: %q", got)
	}
	wantTrace(t, traceZeros, api.TraceID{}, api.ErrID)
	wantTrace(t, spanZeros, api.TraceID{}, api.ErrID)
	wantSpan(t, spanZeros, api.SpanID{}, api.ErrID)
	wantSpan(t, traceZeros, api.SpanID{}, api.ErrForm)
}

// 7.1: one byte alone that is not 0, at any place, of any worth, names something.
func TestOneByte(t *testing.T) {
	for c := 1; c < 256; c++ {
		for at := range 16 {
			want := api.TraceID{}
			want[at] = byte(c)
			digits := hex.EncodeToString(want[:])
			if got := ident.TraceText(want); got != digits {
				t.Errorf("TraceText(%v): %q, want %q", want, got, digits)
			}
			wantTrace(t, digits, want, api.OK)
		}
		for at := range 8 {
			span, trace := api.SpanID{}, api.TraceID{}
			span[at], trace[8+at] = byte(c), byte(c)
			digits := hex.EncodeToString(span[:])
			if got := ident.SpanText(span); got != digits {
				t.Errorf("SpanText(%v): %q, want %q", span, got, digits)
			}
			wantSpan(t, digits, span, api.OK)
			wantTrace(t, digits, trace, api.OK)
			wantTrace(t, spanZeros+digits, trace, api.OK)
		}
	}
}

// 7.1: names of any two halves, against the library's digits; with a first half of 0 also by 16 digits.
func TestTraceBack(t *testing.T) {
	for _, high := range numbers() {
		for _, low := range numbers() {
			name := traceOf(high, low)
			digits := hex.EncodeToString(name[:])
			if got := ident.TraceText(name); got != digits {
				t.Errorf("TraceText(%v): %q, want %q", name, got, digits)
			}
			if high == 0 && low == 0 {
				continue
			}
			wantTrace(t, digits, name, api.OK)
			wantSpan(t, digits, api.SpanID{}, api.ErrForm)
		}
		if high != 0 {
			name := spanOf(high)
			digits := hex.EncodeToString(name[:])
			wantSpan(t, digits, name, api.OK)
			wantTrace(t, digits, traceOf(0, high), api.OK)
		}
	}
}

// 7.1: of another number of digits, be they 0 or not, they are no name's.
func TestOtherLengths(t *testing.T) {
	digits := strings.Repeat("0af7651916cd43dd8448eb211c80319c", 4)
	for count := range 100 {
		if count == 16 || count == 32 {
			continue
		}
		wantForm(t, digits[:count])
		wantForm(t, strings.Repeat("0", count))
		wantForm(t, strings.Repeat("f", count))
		wantForm(t, strings.Repeat("F", count))
	}
	wantForm(t, strings.Repeat("0", 1<<20))
	wantForm(t, strings.Repeat("a", 1<<20+16))
	wantSpan(t, digits[:32], api.SpanID{}, api.ErrForm)
}

// 7.1: a byte that is no digit, A to F too, ahead, within and behind, in place of a digit and as one more.
func TestAnotherByte(t *testing.T) {
	for _, digits := range []string{"b7ad6b7169203331", "0af7651916cd43dd8448eb211c80319c", spanZeros, traceZeros} {
		for c := range 256 {
			b := string([]byte{byte(c)})
			for at := range len(digits) + 1 {
				wantForm(t, digits[:at]+b+digits[at:])
				if at == len(digits) || strings.Contains("0123456789abcdef", b) {
					continue
				}
				wantForm(t, digits[:at]+b+digits[at+1:])
			}
		}
	}
}

// 7.1: names written otherwise elsewhere are none, though they have as many bytes as a name has digits.
func TestOtherForms(t *testing.T) {
	for _, s := range []string{
		"B7AD6B7169203331", "b7ad6b716920333F", "0AF7651916CD43DD8448EB211C80319C", "0af7651916cd43dd8448eb211c80319C",
		"A000000000000000", "000000000000000F", "0x00000000000001", "0X00000000000001", "+000000000000001", "-000000000000001",
		" 000000000000001", "000000000000001 ", "00000000-0000001", "              01", "0000000000000001\n", "0000000000000001\x00",
		"0af76519-16cd-43dd-8448-eb211c80319c", "{0af7651916cd43dd8448eb211c8031}", "0x000000000000000000000000000001",
		"00000000000000010000000000000001 ", " 0000000000000001000000000000001", "0000000000000001:000000000000001",
		"b7ad6b71692033\u0130", "\uff10000000000000f", "\uff10\uff10\uff10\uff10\uff10\uff11", strings.Repeat("\u0130", 8), strings.Repeat("\u0130", 16),
		strings.Repeat("\x00", 16), strings.Repeat("\x00", 32), strings.Repeat("\x01", 8), strings.Repeat("\xff", 16), strings.Repeat("\xff", 32),
	} {
		wantForm(t, s)
	}
}

// 7.1: ErrForm goes ahead of ErrID: zeros with a byte that is no digit at the very end are ErrForm.
func TestFormAhead(t *testing.T) {
	wantForm(t, spanZeros[1:]+"g")
	wantForm(t, traceZeros[1:]+"g")
	wantForm(t, "g"+spanZeros[1:])
	wantForm(t, "g"+traceZeros[1:])
	wantForm(t, spanZeros[1:])
	wantForm(t, spanZeros+"0")
	wantForm(t, traceZeros[1:])
	wantForm(t, traceZeros+"0")
	wantForm(t, traceZeros+traceZeros)
}

// 7.2: numbers written out, there and back.
func TestNumbersWritten(t *testing.T) {
	for _, one := range traces {
		if high, low := ident.Halves(one.t); high != one.high || low != one.low {
			t.Errorf("Halves(%v): %d, %d; want %d, %d", one.t, high, low, one.high, one.low)
		}
		if got := ident.Join(one.high, one.low); got != one.t {
			t.Errorf("Join(%d, %d): %v, want %v", one.high, one.low, got, one.t)
		}
	}
	for _, one := range spans {
		if u := ident.Number(one.x); u != one.u {
			t.Errorf("Number(%v): %d, want %d", one.x, u, one.u)
		}
		if got := ident.Span(one.u); got != one.x {
			t.Errorf("Span(%d): %v, want %v", one.u, got, one.x)
		}
	}
}

// 7.2: names that name nothing are the numbers 0.
func TestNumbersOfNothing(t *testing.T) {
	if high, low := ident.Halves(api.TraceID{}); high != 0 || low != 0 {
		t.Errorf("Halves of nothing: %d, %d", high, low)
	}
	if got := ident.Join(0, 0); got != (api.TraceID{}) {
		t.Errorf("Join(0, 0): %v", got)
	}
	if u := ident.Number(api.SpanID{}); u != 0 {
		t.Errorf("Number of nothing: %d", u)
	}
	if got := ident.Span(0); got != (api.SpanID{}) {
		t.Errorf("Span(0): %v", got)
	}
}

// 7.2: any numbers, in either half, against the library's bytes.
func TestNumbers(t *testing.T) {
	for _, high := range numbers() {
		for _, low := range numbers() {
			name := traceOf(high, low)
			if got := ident.Join(high, low); got != name {
				t.Errorf("Join(%d, %d): %v, want %v", high, low, got, name)
			}
			if gotHigh, gotLow := ident.Halves(name); gotHigh != high || gotLow != low {
				t.Errorf("Halves(%v): %d, %d; want %d, %d", name, gotHigh, gotLow, high, low)
			}
		}
		name := spanOf(high)
		if got := ident.Span(high); got != name {
			t.Errorf("Span(%d): %v, want %v", high, got, name)
		}
		if u := ident.Number(name); u != high {
			t.Errorf("Number(%v): %d, want %d", name, u, high)
		}
	}
}

func wantAdd(t *testing.T, when string, s *ident.Seen, trace api.TraceID, x api.SpanID, want int, wantNew bool) {
	t.Helper()
	if n, is := s.Add(trace, x); n != want || is != wantNew {
		t.Errorf("%s: Add(%v, %v): %d, %v; want %d, %v", when, trace, x, n, is, want, wantNew)
	}
}

func wantFind(t *testing.T, when string, s *ident.Seen, trace api.TraceID, x api.SpanID, want int, wantIs bool) {
	t.Helper()
	if n, is := s.Find(trace, x); n != want || is != wantIs {
		t.Errorf("%s: Find(%v, %v): %d, %v; want %d, %v", when, trace, x, n, is, want, wantIs)
	}
}

func wantLen(t *testing.T, when string, s *ident.Seen, want int) {
	t.Helper()
	if n := s.Len(); n != want {
		t.Errorf("%s: Len: %d, want %d", when, n, want)
	}
}

// 7.3: a keeper that saw nothing.
func TestNew(t *testing.T) {
	s := ident.New()
	wantLen(t, "new", s, 0)
	wantFind(t, "new", s, api.TraceID{1}, api.SpanID{1}, 0, false)
	wantFind(t, "new", s, api.TraceID{}, api.SpanID{}, 0, false)
	wantLen(t, "asked", s, 0)
}

// 7.3: a span seen once, and again.
func TestAgain(t *testing.T) {
	s := ident.New()
	trace, x, y := api.TraceID{15: 1}, api.SpanID{7: 1}, api.SpanID{7: 2}
	wantAdd(t, "once", s, trace, x, 0, true)
	wantLen(t, "once", s, 1)
	wantFind(t, "once", s, trace, x, 0, true)
	wantAdd(t, "again", s, trace, x, 0, false)
	wantLen(t, "again", s, 1)
	wantAdd(t, "another", s, trace, y, 1, true)
	wantLen(t, "another", s, 2)
	for range 3 {
		wantAdd(t, "both again", s, trace, y, 1, false)
		wantAdd(t, "both again", s, trace, x, 0, false)
		wantFind(t, "both again", s, trace, x, 0, true)
		wantFind(t, "both again", s, trace, y, 1, true)
		wantLen(t, "both again", s, 2)
	}
}

// 7.3: what is seen again does not count for what is seen next.
func TestNumbersWithoutGaps(t *testing.T) {
	s := ident.New()
	for i := range 20 {
		x := ident.Span(uint64(i))
		wantFind(t, "before", s, api.TraceID{}, x, 0, false)
		wantAdd(t, "first", s, api.TraceID{}, x, i, true)
		for j := range i + 1 {
			wantAdd(t, "again", s, api.TraceID{}, ident.Span(uint64(j)), j, false)
		}
		wantLen(t, "again", s, i+1)
	}
}

// 7.3: the same span of two traces, and two spans of one trace, are others, whatever byte tells them apart.
func TestApart(t *testing.T) {
	s := ident.New()
	trace, x := api.TraceID{7, 7, 7, 7, 7, 7, 7, 7, 7, 7, 7, 7, 7, 7, 7, 7}, api.SpanID{7, 7, 7, 7, 7, 7, 7, 7}
	wantAdd(t, "first", s, trace, x, 0, true)
	for at := range 16 {
		other := trace
		other[at]++
		wantFind(t, "another trace", s, other, x, 0, false)
		wantAdd(t, "another trace", s, other, x, 1+at, true)
	}
	for at := range 8 {
		other := x
		other[at]++
		wantFind(t, "another span", s, trace, other, 0, false)
		wantAdd(t, "another span", s, trace, other, 17+at, true)
	}
	wantLen(t, "all", s, 25)
	for at := range 16 {
		other := trace
		other[at]++
		wantFind(t, "another trace again", s, other, x, 1+at, true)
	}
	for at := range 8 {
		other := x
		other[at]++
		wantFind(t, "another span again", s, trace, other, 17+at, true)
	}
	wantAdd(t, "first again", s, trace, x, 0, false)
}

// 7.3: bytes that move between a trace's name and a span's make another span.
func TestBytesMove(t *testing.T) {
	s := ident.New()
	wantAdd(t, "in the trace", s, api.TraceID{15: 1}, api.SpanID{}, 0, true)
	wantAdd(t, "in the span", s, api.TraceID{}, api.SpanID{0: 1}, 1, true)
	wantAdd(t, "at the trace's first", s, api.TraceID{0: 1}, api.SpanID{}, 2, true)
	wantAdd(t, "at the trace's second half", s, api.TraceID{8: 1}, api.SpanID{}, 3, true)
	wantAdd(t, "halves", s, ident.Join(1, 2), ident.Span(3), 4, true)
	wantAdd(t, "halves changed", s, ident.Join(2, 1), ident.Span(3), 5, true)
	wantAdd(t, "half and span changed", s, ident.Join(1, 3), ident.Span(2), 6, true)
	wantLen(t, "all", s, 7)
}

// 7.3: a span, and a trace, that names nothing is seen, too.
func TestSeenNothing(t *testing.T) {
	s := ident.New()
	trace, x := api.TraceID{3: 9}, api.SpanID{5: 9}
	wantAdd(t, "neither", s, api.TraceID{}, api.SpanID{}, 0, true)
	wantAdd(t, "no span", s, trace, api.SpanID{}, 1, true)
	wantAdd(t, "no trace", s, api.TraceID{}, x, 2, true)
	wantAdd(t, "both", s, trace, x, 3, true)
	wantLen(t, "all", s, 4)
	wantFind(t, "neither", s, api.TraceID{}, api.SpanID{}, 0, true)
	wantFind(t, "no span", s, trace, api.SpanID{}, 1, true)
	wantFind(t, "no trace", s, api.TraceID{}, x, 2, true)
	wantAdd(t, "neither again", s, api.TraceID{}, api.SpanID{}, 0, false)
	wantAdd(t, "no span again", s, trace, api.SpanID{}, 1, false)
	wantAdd(t, "no trace again", s, api.TraceID{}, x, 2, false)
	wantLen(t, "again", s, 4)
}

// 7.3: to find a span does not make it seen.
func TestFindChangesNothing(t *testing.T) {
	s := ident.New()
	s.Add(api.TraceID{1}, api.SpanID{1})
	for range 3 {
		wantFind(t, "not seen", s, api.TraceID{1}, api.SpanID{2}, 0, false)
		wantFind(t, "not seen", s, api.TraceID{2}, api.SpanID{1}, 0, false)
		wantFind(t, "seen", s, api.TraceID{1}, api.SpanID{1}, 0, true)
		wantLen(t, "found", s, 1)
	}
	wantAdd(t, "found", s, api.TraceID{1}, api.SpanID{2}, 1, true)
}

// 7.3: many spans of many traces, each under its own number, from the first one on.
func TestMany(t *testing.T) {
	s := ident.New()
	const count = 300
	for i := range count * count {
		trace, x := ident.Join(uint64(i%count), uint64(i%7)<<60), ident.Span(uint64(i/count)<<33)
		wantAdd(t, "many", s, trace, x, i, true)
	}
	wantLen(t, "many", s, count*count)
	for i := count*count - 1; i >= 0; i-- {
		trace, x := ident.Join(uint64(i%count), uint64(i%7)<<60), ident.Span(uint64(i/count)<<33)
		wantFind(t, "many", s, trace, x, i, true)
		wantAdd(t, "many again", s, trace, x, i, false)
	}
	wantLen(t, "many again", s, count*count)
	wantFind(t, "many", s, ident.Join(count, 0), ident.Span(0), 0, false)
	wantFind(t, "many", s, ident.Join(0, 0), ident.Span(count<<33), 0, false)
}

// 7.3: two keepers have nothing to do with each other.
func TestKeepersApart(t *testing.T) {
	a, b := ident.New(), ident.New()
	wantAdd(t, "a", a, api.TraceID{1}, api.SpanID{1}, 0, true)
	wantAdd(t, "a", a, api.TraceID{1}, api.SpanID{2}, 1, true)
	wantLen(t, "b", b, 0)
	wantFind(t, "b", b, api.TraceID{1}, api.SpanID{1}, 0, false)
	wantAdd(t, "b", b, api.TraceID{1}, api.SpanID{2}, 0, true)
	wantLen(t, "b", b, 1)
	wantLen(t, "a", a, 2)
	wantFind(t, "a", a, api.TraceID{1}, api.SpanID{2}, 1, true)
	wantFind(t, "b", b, api.TraceID{1}, api.SpanID{1}, 0, false)
}

// 7.3: a nil keeper sees nothing.
func TestNilKeeper(t *testing.T) {
	var s *ident.Seen
	for range 2 {
		wantAdd(t, "nil", s, api.TraceID{1}, api.SpanID{1}, 0, false)
		wantAdd(t, "nil", s, api.TraceID{}, api.SpanID{}, 0, false)
		wantFind(t, "nil", s, api.TraceID{1}, api.SpanID{1}, 0, false)
		wantFind(t, "nil", s, api.TraceID{}, api.SpanID{}, 0, false)
		wantLen(t, "nil", s, 0)
	}
}
