package moment_test

import (
	"math"
	"math/big"
	"slices"
	"testing"

	"truchman/api"
	"truchman/moment"
)

const (
	// greatest is how many whole microseconds there are up to MaxTime, 9,223,372,036,854,775,807.
	greatest = 9223372036854775
	maxTime  = math.MaxInt64
	maxNum   = math.MaxUint64
)

// moments are nanoseconds: the edges, those around whole microseconds and around each power of two.
func moments() []uint64 {
	list := []uint64{
		0, 1, 999, 1000, 1001, 1999, 2000, 2001, 4001, 999999, 1000000, 1000001, 1700000000123456789,
		greatest*1000 - 1, greatest * 1000, greatest*1000 + 1, maxTime - 1000, maxTime - 808, maxTime - 807, maxTime - 1, maxTime,
		maxTime + 1, maxTime + 2, maxTime + 193, maxTime + 194, maxNum - 616, maxNum - 615, maxNum - 1, maxNum,
	}
	for bit := range 64 {
		p := uint64(1) << bit
		list = append(list, p-1, p, p+1)
	}
	slices.Sort(list)
	return slices.Compact(list)
}

// micros are microseconds, with both signs: the edges, those whose products go round 64 bits, and those around each power of two.
func micros() []int {
	list := []int{
		0, 1, 2, 999, 1000, 1001, 1700000000123456,
		greatest - 1, greatest, greatest + 1, greatest + 2, greatest/2 - 1, greatest / 2, greatest/2 + 1, greatest/2 + 2,
		18446744073709551, 18446744073709552, 18446744073709553, 36893488147419103, 36893488147419104,
		math.MaxInt/2 + 1, math.MaxInt - 1, math.MaxInt, math.MinInt, math.MinInt + 1, -1, -2, -999, -1000, -greatest - 1, -greatest,
	}
	for bit := range 62 {
		p := 1 << bit
		list = append(list, p-1, p, p+1, -p)
	}
	slices.Sort(list)
	return slices.Compact(list)
}

// nanosOf tells the nanoseconds of microseconds apart from the code, with no bound.
func nanosOf(us int) *big.Int {
	return new(big.Int).Mul(big.NewInt(int64(us)), big.NewInt(1000))
}

// isMoment tells whether a number is from 0 to MaxTime.
func isMoment(n *big.Int) bool {
	return n.Sign() >= 0 && n.Cmp(big.NewInt(maxTime)) <= 0
}

// thousandth tells a number's thousandth part, rounded down, apart from the code.
func thousandth(n uint64) int {
	return int(new(big.Int).Div(new(big.Int).SetUint64(n), big.NewInt(1000)).Int64())
}

// rangeOf tells the range of Of apart from the code.
func rangeOf(begun, lasts int) (moment.Range, api.Code) {
	start, length := nanosOf(begun), nanosOf(lasts)
	end := new(big.Int).Add(start, length)
	if !isMoment(start) || !isMoment(length) || !isMoment(end) {
		return moment.Range{}, api.ErrTime
	}
	return moment.Range{Start: start.Uint64(), End: end.Uint64()}, api.OK
}

func wantNano(t *testing.T, us int, want uint64, code api.Code) {
	t.Helper()
	if got, gotCode := moment.Nano(us); got != want || gotCode != code {
		t.Errorf("Nano(%d): %d, %d; want %d, %d", us, got, gotCode, want, code)
	}
}

func wantOf(t *testing.T, begun, lasts int, want moment.Range, code api.Code) {
	t.Helper()
	if got, gotCode := moment.Of(begun, lasts); got != want || gotCode != code {
		t.Errorf("Of(%d, %d): %v, %d; want %v, %d", begun, lasts, got, gotCode, want, code)
	}
}

// wantRange holds all that a range tells, and that it stays as it is.
func wantRange(t *testing.T, r moment.Range, code api.Code, begun, lasts int, whole moment.Range) {
	t.Helper()
	was := r
	for range 2 {
		if got := r.Check(); got != code {
			t.Errorf("%v: Check %d, want %d", was, got, code)
		}
		if got := r.Begun(); got != begun {
			t.Errorf("%v: Begun %d, want %d", was, got, begun)
		}
		if got := r.Lasts(); got != lasts {
			t.Errorf("%v: Lasts %d, want %d", was, got, lasts)
		}
		if got := r.Whole(); got != whole {
			t.Errorf("%v: Whole %v, want %v", was, got, whole)
		}
	}
	if r != was {
		t.Errorf("%v became %v", was, r)
	}
}

// wantNone holds what a range tells that may not be: nothing but ErrTime, and a Whole of no microseconds from 0 on.
func wantNone(t *testing.T, r moment.Range) {
	t.Helper()
	wantRange(t, r, api.ErrTime, 0, 0, moment.Range{})
}

// 8.1: nanoseconds of microseconds, written out.
func TestNanoWritten(t *testing.T) {
	for _, one := range []struct {
		us int
		ns uint64
	}{
		{0, 0},
		{1, 1000},
		{2, 2000},
		{999, 999000},
		{1000, 1000000},
		{1700000000123456, 1700000000123456000},
		{greatest - 1, 9223372036854774000},
		{greatest, 9223372036854775000},
	} {
		wantNano(t, one.us, one.ns, api.OK)
	}
}

// 8.1: microseconds below 0, and those whose nanoseconds are above MaxTime, also where their product goes round.
func TestNanoOfWrong(t *testing.T) {
	for _, us := range []int{
		-1, -2, -999, -1000, -greatest, -greatest - 1, math.MinInt, math.MinInt + 1,
		greatest + 1, greatest + 2, 9223372036854776, 9223372036854777, 10000000000000000,
		18446744073709551, 18446744073709552, 18446744073709553, 36893488147419103, 36893488147419104,
		1 << 61, 1<<61 + 1, 1 << 62, math.MaxInt - 1, math.MaxInt,
	} {
		wantNano(t, us, 0, api.ErrTime)
	}
}

// 8.1: any microseconds, against numbers without a bound.
func TestNano(t *testing.T) {
	for _, us := range micros() {
		if n := nanosOf(us); isMoment(n) {
			wantNano(t, us, n.Uint64(), api.OK)
		} else {
			wantNano(t, us, 0, api.ErrTime)
		}
	}
}

// 8.1: microseconds of nanoseconds, written out; also of those that are above MaxTime, for which no bound is named.
func TestMicroWritten(t *testing.T) {
	for _, one := range []struct {
		ns uint64
		us int
	}{
		{0, 0},
		{1, 0},
		{499, 0},
		{500, 0},
		{999, 0},
		{1000, 1},
		{1001, 1},
		{1500, 1},
		{1999, 1},
		{2000, 2},
		{1700000000123456789, 1700000000123456},
		{9223372036854774999, greatest - 1},
		{9223372036854775000, greatest},
		{maxTime, greatest},
		{maxTime + 1, greatest},
		{9223372036854775999, greatest},
		{9223372036854776000, greatest + 1},
		{maxNum, 18446744073709551},
	} {
		if got := moment.Micro(one.ns); got != one.us {
			t.Errorf("Micro(%d): %d, want %d", one.ns, got, one.us)
		}
	}
}

// 8.1: any nanoseconds, against the library's numbers; what is whole comes back of its microseconds.
func TestMicro(t *testing.T) {
	for _, ns := range moments() {
		us := moment.Micro(ns)
		if us != thousandth(ns) {
			t.Errorf("Micro(%d): %d, want %d", ns, us, thousandth(ns))
		}
		if ns <= maxTime {
			wantNano(t, us, ns-ns%1000, api.OK)
		}
	}
}

// 8.2: ranges that may be, with all that they tell written out.
func TestRangeWritten(t *testing.T) {
	for _, one := range []struct {
		when         string
		start, end   uint64
		begun, lasts int
		whole        moment.Range
	}{
		{"the chapter's example", 1999, 4001, 1, 2, moment.Range{Start: 1000, End: 3000}},
		{"nothing at 0", 0, 0, 0, 0, moment.Range{}},
		{"nothing within the first microsecond", 1, 1, 0, 0, moment.Range{}},
		{"nothing, at its end", 999, 999, 0, 0, moment.Range{}},
		{"nothing, at a whole one", 1000, 1000, 1, 0, moment.Range{Start: 1000, End: 1000}},
		{"nothing, within a later one", 1999, 1999, 1, 0, moment.Range{Start: 1000, End: 1000}},
		{"nothing at MaxTime", maxTime, maxTime, greatest, 0, moment.Range{Start: greatest * 1000, End: greatest * 1000}},
		{"from 0, less than one", 0, 999, 0, 0, moment.Range{}},
		{"from 0, just one", 0, 1000, 0, 1, moment.Range{End: 1000}},
		{"from 0, more than one", 0, 1999, 0, 1, moment.Range{End: 1000}},
		{"all of it", 0, maxTime, 0, greatest, moment.Range{End: greatest * 1000}},
		{"all but the first", 1, maxTime, 0, greatest, moment.Range{End: greatest * 1000}},
		{"up to MaxTime, just whole", 807, maxTime, 0, greatest, moment.Range{End: greatest * 1000}},
		{"up to MaxTime, not whole any more", 808, maxTime, 0, greatest - 1, moment.Range{End: (greatest - 1) * 1000}},
		{"the last one that is whole", maxTime - 1000, maxTime, greatest - 1, 1, moment.Range{Start: (greatest - 1) * 1000, End: greatest * 1000}},
		{"the last nanosecond", maxTime - 1, maxTime, greatest, 0, moment.Range{Start: greatest * 1000, End: greatest * 1000}},
		{"begins within", 1001, 3000, 1, 1, moment.Range{Start: 1000, End: 2000}},
		{"ends within", 1000, 2999, 1, 1, moment.Range{Start: 1000, End: 2000}},
		{"begins and ends within, at one place", 1234, 3234, 1, 2, moment.Range{Start: 1000, End: 3000}},
		{"whole ones", 2000, 5000, 2, 3, moment.Range{Start: 2000, End: 5000}},
		{"within one", 1001, 1999, 1, 0, moment.Range{Start: 1000, End: 1000}},
		{"in two, though less than one", 1999, 2001, 1, 0, moment.Range{Start: 1000, End: 1000}},
		{"in two, a nanosecond", 999, 1000, 0, 0, moment.Range{}},
		{"in two, one less a nanosecond", 1500, 2499, 1, 0, moment.Range{Start: 1000, End: 1000}},
		{"in two, just one", 1500, 2500, 1, 1, moment.Range{Start: 1000, End: 2000}},
		{"in three, though less than two", 1999, 3998, 1, 1, moment.Range{Start: 1000, End: 2000}},
		{"of our days", 1700000000123456789, 1700000000987654321, 1700000000123456, 864197, moment.Range{Start: 1700000000123456000, End: 1700000000987653000}},
	} {
		t.Run(one.when, func(t *testing.T) {
			wantRange(t, moment.Range{Start: one.start, End: one.end}, api.OK, one.begun, one.lasts, one.whole)
		})
	}
}

// 8.2: ranges that may not be tell nothing else.
func TestRangeOfWrong(t *testing.T) {
	for _, one := range []struct {
		when       string
		start, end uint64
	}{
		{"begins behind its end, by a nanosecond", 1, 0},
		{"within one microsecond", 1999, 1998},
		{"whole ones", 5000, 2000},
		{"from MaxTime to 0", maxTime, 0},
		{"from MaxTime to ahead of it", maxTime, maxTime - 1},
		{"ends behind MaxTime, from 0", 0, maxTime + 1},
		{"ends behind MaxTime, from 1", 1, maxTime + 1},
		{"ends behind MaxTime, from there", maxTime, maxTime + 1},
		{"ends as late as can be, from 0", 0, maxNum},
		{"ends as late as can be, from MaxTime", maxTime, maxNum},
		{"nothing behind MaxTime", maxTime + 1, maxTime + 1},
		{"behind MaxTime", maxTime + 1, maxTime + 5001},
		{"nothing as late as can be", maxNum, maxNum},
		{"all behind MaxTime", maxTime + 1, maxNum},
		{"begins behind MaxTime, ends at 0", maxTime + 1, 0},
		{"begins behind MaxTime, ends there", maxTime + 1, maxTime},
		{"begins as late as can be, ends at 0", maxNum, 0},
		{"begins as late as can be, ends at MaxTime", maxNum, maxTime},
		{"both: behind its end, and behind MaxTime", maxTime + 2, maxTime + 1},
		{"both, as late as can be", maxNum, maxNum - 1},
		{"both, as far apart as can be", maxNum, maxTime + 1},
	} {
		t.Run(one.when, func(t *testing.T) {
			wantNone(t, moment.Range{Start: one.start, End: one.end})
		})
	}
}

// 8.2: any range of two moments, against the library's numbers.
func TestRange(t *testing.T) {
	for _, start := range moments() {
		for _, end := range moments() {
			r := moment.Range{Start: start, End: end}
			if start > end || end > maxTime {
				wantNone(t, r)
				continue
			}
			begun, lasts := thousandth(start), thousandth(end-start)
			whole, code := rangeOf(begun, lasts)
			if code != api.OK || whole.End > end || whole.Start > start || end-whole.End > 1998 {
				t.Fatalf("%v: the test's own Whole is %v, %d", r, whole, code)
			}
			wantRange(t, r, api.OK, begun, lasts, whole)
		}
	}
}

// 8.2: what is whole stays as it is, and tells what the range told of which it was made.
func TestWholeAgain(t *testing.T) {
	for _, start := range moments() {
		for _, end := range moments() {
			r := moment.Range{Start: start, End: end}
			whole := r.Whole()
			wantRange(t, whole, api.OK, r.Begun(), r.Lasts(), whole)
			wantOf(t, r.Begun(), r.Lasts(), whole, api.OK)
		}
	}
}

// 8.2: ranges of a beginning and a length, written out.
func TestOfWritten(t *testing.T) {
	for _, one := range []struct {
		begun, lasts int
		want         moment.Range
	}{
		{0, 0, moment.Range{}},
		{1, 0, moment.Range{Start: 1000, End: 1000}},
		{0, 1, moment.Range{End: 1000}},
		{1, 2, moment.Range{Start: 1000, End: 3000}},
		{2, 1, moment.Range{Start: 2000, End: 3000}},
		{1700000000123456, 864197, moment.Range{Start: 1700000000123456000, End: 1700000000987653000}},
		{greatest, 0, moment.Range{Start: 9223372036854775000, End: 9223372036854775000}},
		{0, greatest, moment.Range{End: 9223372036854775000}},
		{greatest - 1, 1, moment.Range{Start: 9223372036854774000, End: 9223372036854775000}},
		{1, greatest - 1, moment.Range{Start: 1000, End: 9223372036854775000}},
		{greatest / 2, greatest/2 + 1, moment.Range{Start: 4611686018427387000, End: 9223372036854775000}},
		{greatest/2 + 1, greatest / 2, moment.Range{Start: 4611686018427388000, End: 9223372036854775000}},
	} {
		wantOf(t, one.begun, one.lasts, one.want, api.OK)
	}
}

// 8.2: a beginning or a length that is no moment, and two that are, whose sum is none.
func TestOfWrong(t *testing.T) {
	for _, one := range []struct{ begun, lasts int }{
		{-1, 0}, {-1, 1}, {-1, 2}, {-5, 10}, {math.MinInt, 0}, {math.MinInt, math.MaxInt}, {-greatest, greatest},
		{0, -1}, {1, -1}, {2, -1}, {10, -5}, {0, math.MinInt}, {math.MaxInt, math.MinInt}, {greatest, -greatest}, {greatest, -1}, {greatest + 1, -1},
		{-1, -1}, {math.MinInt, math.MinInt}, {-1, math.MinInt}, {-1, greatest + 1},
		{greatest + 1, 0}, {0, greatest + 1}, {greatest + 1, greatest + 1}, {math.MaxInt, 0}, {0, math.MaxInt}, {math.MaxInt, math.MaxInt},
		{18446744073709552, 0}, {0, 18446744073709552}, {1 << 61, 1 << 61}, {1 << 61, 0}, {0, 1 << 61},
		{greatest, 1}, {1, greatest}, {greatest - 1, 2}, {2, greatest - 1}, {greatest/2 + 1, greatest/2 + 1}, {greatest, greatest},
	} {
		wantOf(t, one.begun, one.lasts, moment.Range{}, api.ErrTime)
	}
}

// 8.2: any beginning and any length, against numbers without a bound; what comes of them tells them.
func TestOf(t *testing.T) {
	for _, begun := range micros() {
		for _, lasts := range micros() {
			want, code := rangeOf(begun, lasts)
			wantOf(t, begun, lasts, want, code)
			if code == api.OK {
				wantRange(t, want, api.OK, begun, lasts, want)
			}
		}
	}
}
