package fault_test

import (
	"errors"
	"math"
	"slices"
	"strconv"
	"strings"
	"testing"

	"truchman/api"
	"truchman/fault"
)

// named are the codes that api names, but OK.
var named = []api.Code{
	api.ErrCut, api.ErrTail, api.ErrForm, api.ErrRange, api.ErrText, api.ErrEscape, api.ErrKind, api.ErrTwice,
	api.ErrNone, api.ErrID, api.ErrTime, api.ErrOrder, api.ErrArg, api.ErrWire, api.ErrVersion, api.ErrBatch,
	api.ErrSize, api.ErrDeep, api.ErrCount, api.ErrLong, api.ErrWeight,
}

// strange are numbers that are no code of api's: between the codes, above them and below 0.
var strange = []api.Code{
	17, 18, 24, 30, 31, 37, 38, 64, 99, 100, 255, 256, 266, 1 << 16, 1<<32 + 10, 1<<32 + 32, math.MaxInt - 1, math.MaxInt,
	-1, -2, -10, -16, -32, -36, -100, -256, -1 << 32, math.MinInt + 1, math.MinInt,
}

// parts are parts of each kind, some of which look like the ends of others.
var parts = []string{
	"scope 0", "span 2", "a", "", ":", ": ", " ", "a: ", "a:", " a", "10", "10: ", "-5", "line\nfeed", "\n", "\x00",
	"\xff\xfe", "\xc0\x80", "\xed\xa0\x80", "\xe2\x82", "\u20ac", strings.Repeat("long ", 1000),
}

// faultCodes are all codes that faults may have.
func faultCodes() []api.Code {
	return slices.Concat(named, strange)
}

// wrapped tells a fault of a code within parts, the outmost first.
func wrapped(code api.Code, path ...string) error {
	err := fault.New(code)
	for _, part := range slices.Backward(path) {
		err = fault.In(part, err)
	}
	return err
}

// textOf tells a fault's text apart from the code.
func textOf(code api.Code, path []string) string {
	return strings.Join(append(slices.Clone(path), strconv.Itoa(int(code))), ": ")
}

// spoil writes to all of a list, and to the memory behind its length.
func spoil(list []string) {
	all := list[:cap(list)]
	for i := range all {
		all[i] = "spoilt"
	}
}

// wantHas holds of which codes an error is.
func wantHas(t *testing.T, err error, code api.Code) {
	t.Helper()
	for _, other := range append(faultCodes(), api.OK, code-1, code+1, -code, code) {
		want := other == code && code != api.OK
		if got := fault.Has(err, other); got != want {
			t.Errorf("Has(%v, %d): %t, want %t", err, other, got, want)
		}
	}
}

// wantFault holds all that a fault tells, and that it stays as it is, whatever happens to what it answered.
func wantFault(t *testing.T, err error, code api.Code, path []string, text string) {
	t.Helper()
	if err == nil {
		t.Fatalf("nil, want the fault %q", text)
	}
	for range 2 {
		if got := fault.Of(err); got != code {
			t.Errorf("Of %q: %d, want %d", text, got, code)
		}
		wantHas(t, err, code)
		if got := fault.Text(err); got != text {
			t.Errorf("Text: %q, want %q", got, text)
		}
		got := fault.Path(err)
		if !slices.Equal(got, path) {
			t.Errorf("Path of %q: %q, want %q", text, got, path)
		}
		spoil(got)
	}
}

// wantNil holds that an error is none, and all that is told of none.
func wantNil(t *testing.T, err error) {
	t.Helper()
	if err != nil {
		t.Errorf("%v, want nil", err)
	}
	if got := fault.Of(err); got != api.OK {
		t.Errorf("Of nil: %d, want OK", got)
	}
	wantHas(t, err, api.OK)
	if got := fault.Path(err); len(got) != 0 {
		t.Errorf("Path of nil: %q, want none", got)
	}
	if got := fault.Text(err); got != "" {
		t.Errorf("Text of nil: %q, want none", got)
	}
}

// 9.1: New of OK is nil, and so is nil within anything.
func TestNil(t *testing.T) {
	wantNil(t, nil)
	wantNil(t, fault.New(api.OK))
	for _, part := range parts {
		wantNil(t, fault.In(part, nil))
		wantNil(t, fault.In(part, fault.New(api.OK)))
		wantNil(t, fault.In("outside", fault.In(part, nil)))
	}
}

// 9.1, 9.2: faults with all that they tell written out.
func TestFaultWritten(t *testing.T) {
	id := fault.New(api.ErrID)
	for _, one := range []struct {
		when string
		err  error
		code api.Code
		path []string
		text string
	}{
		{"within nothing", id, 10, nil, "10"},
		{"the chapter's example", fault.In("scope 0", fault.In("span 2", id)), 10, []string{"scope 0", "span 2"}, "scope 0: span 2: 10"},
		{"within one part", fault.In("zipkin", fault.New(api.ErrSize)), 32, []string{"zipkin"}, "zipkin: 32"},
		{"within three", fault.In("resource 0", fault.In("scope 0", fault.In("span 1", id))), 10, []string{"resource 0", "scope 0", "span 1"}, "resource 0: scope 0: span 1: 10"},
		{"within one part twice", fault.In("a", fault.In("a", id)), 10, []string{"a", "a"}, "a: a: 10"},
		{"within one part twice, another between", fault.In("a", fault.In("b", fault.In("a", id))), 10, []string{"a", "b", "a"}, "a: b: a: 10"},
		{"within an empty part", fault.In("", id), 10, []string{""}, ": 10"},
		{"within empty parts", fault.In("", fault.In("", id)), 10, []string{"", ""}, ": : 10"},
		{"an empty part within another one", fault.In("a", fault.In("", id)), 10, []string{"a", ""}, "a: : 10"},
		{"another part within an empty one", fault.In("", fault.In("a", id)), 10, []string{"", "a"}, ": a: 10"},
		{"within a colon", fault.In(":", id), 10, []string{":"}, ":: 10"},
		{"within a colon and a blank", fault.In(": ", id), 10, []string{": "}, ": : 10"},
		{"within a part that ends so", fault.In("a: ", id), 10, []string{"a: "}, "a: : 10"},
		{"within a part that looks like two", fault.In("a: b", id), 10, []string{"a: b"}, "a: b: 10"},
		{"within a part that looks like a fault", fault.In("a: 10", fault.New(api.ErrCut)), 1, []string{"a: 10"}, "a: 10: 1"},
		{"within a line feed", fault.In("a\nb", id), 10, []string{"a\nb"}, "a\nb: 10"},
		{"within bytes that are no characters", fault.In("\xff\xc0", fault.In("\xed\xa0\x80", id)), 10, []string{"\xff\xc0", "\xed\xa0\x80"}, "\xff\xc0: \xed\xa0\x80: 10"},
		{"of one digit", fault.New(api.ErrCut), 1, nil, "1"},
		{"of one digit, the last", fault.In("a", fault.New(api.ErrNone)), 9, []string{"a"}, "a: 9"},
		{"of two digits", fault.New(api.ErrWeight), 36, nil, "36"},
		{"of many digits", fault.New(1000000), 1000000, nil, "1000000"},
		{"of the greatest number", fault.In("a", fault.New(math.MaxInt)), math.MaxInt, []string{"a"}, "a: 9223372036854775807"},
		{"below 0", fault.New(-1), -1, nil, "-1"},
		{"below 0, within a part", fault.In("a", fault.New(-36)), -36, []string{"a"}, "a: -36"},
		{"of the least number", fault.In("a", fault.New(math.MinInt)), math.MinInt, []string{"a"}, "a: -9223372036854775808"},
	} {
		t.Run(one.when, func(t *testing.T) {
			wantFault(t, one.err, one.code, one.path, one.text)
		})
	}
}

// 9.1, 9.2: a fault of each code, api's and others, within nothing, one part and two.
func TestFaultOfEachCode(t *testing.T) {
	for _, code := range faultCodes() {
		for _, path := range [][]string{{}, {"span 2"}, {"scope 0", "span 2"}} {
			wantFault(t, wrapped(code, path...), code, path, textOf(code, path))
		}
	}
}

// 9.1, 9.2: a fault within each part, and within each two.
func TestFaultInEachPart(t *testing.T) {
	for _, outer := range parts {
		wantFault(t, wrapped(api.ErrTime, outer), api.ErrTime, []string{outer}, outer+": 11")
		for _, inner := range parts {
			err := fault.In(outer, fault.In(inner, fault.New(api.ErrText)))
			wantFault(t, err, api.ErrText, []string{outer, inner}, outer+": "+inner+": 5")
		}
	}
}

// 9.1, 9.2: a fault within many parts, asked at each depth; what is laid around it does not turn it.
func TestFaultInMany(t *testing.T) {
	const many = 200
	err, path := fault.New(api.ErrDeep), []string(nil)
	var errs []error
	for i := range many {
		errs = append(errs, err)
		err, path = fault.In("part "+strconv.Itoa(i), err), append(path, "part "+strconv.Itoa(i))
	}
	slices.Reverse(path)
	wantFault(t, err, api.ErrDeep, path, textOf(api.ErrDeep, path))
	for i, one := range errs {
		inner := path[many-i:]
		wantFault(t, one, api.ErrDeep, inner, textOf(api.ErrDeep, inner))
	}
}

// 9.1, 9.2: as many levels as the document's bounds ask for.
func TestFaultAsDeepAsCanBe(t *testing.T) {
	const levels = 1<<16 - 1
	path := make([]string, levels)
	for i := range path {
		path[i] = strconv.Itoa(i % 7)
	}
	wantFault(t, wrapped(api.ErrArg, path...), api.ErrArg, path, textOf(api.ErrArg, path))
}

// 9.1, 9.2: faults of one code within unlike parts, and faults of unlike codes within one part.
func TestFaultsApart(t *testing.T) {
	one, other := wrapped(api.ErrID, "span 1"), wrapped(api.ErrID, "span 2")
	longer := wrapped(api.ErrID, "scope 0", "span 1")
	unlike := wrapped(api.ErrTime, "span 1")
	wantFault(t, one, api.ErrID, []string{"span 1"}, "span 1: 10")
	wantFault(t, other, api.ErrID, []string{"span 2"}, "span 2: 10")
	wantFault(t, longer, api.ErrID, []string{"scope 0", "span 1"}, "scope 0: span 1: 10")
	wantFault(t, unlike, api.ErrTime, []string{"span 1"}, "span 1: 11")
	wantFault(t, one, api.ErrID, []string{"span 1"}, "span 1: 10")
}

// 9.1, 9.2: one fault within two things, of which neither turns the other, nor the fault.
func TestFaultShared(t *testing.T) {
	inner := wrapped(api.ErrLong, "attribute")
	one := fault.In("one", inner)
	other := fault.In("other", inner)
	higher := fault.In("higher", one)
	for range 2 {
		spoil(fault.Path(one))
		wantFault(t, inner, api.ErrLong, []string{"attribute"}, "attribute: 35")
		wantFault(t, one, api.ErrLong, []string{"one", "attribute"}, "one: attribute: 35")
		wantFault(t, other, api.ErrLong, []string{"other", "attribute"}, "other: attribute: 35")
		wantFault(t, higher, api.ErrLong, []string{"higher", "one", "attribute"}, "higher: one: attribute: 35")
	}
}

// 9.2: no two answers of Path share memory.
func TestPathIsNew(t *testing.T) {
	err := wrapped(api.ErrForm, "a", "b", "c")
	one, other := fault.Path(err), fault.Path(err)
	spoil(one)
	if want := []string{"a", "b", "c"}; !slices.Equal(other, want) {
		t.Errorf("Path: %q behind another answer was written to, want %q", other, want)
	}
	wantFault(t, err, api.ErrForm, []string{"a", "b", "c"}, "a: b: c: 3")
}

// 9.2: what a fault says as an error is its text.
func TestError(t *testing.T) {
	for _, code := range faultCodes() {
		for _, path := range [][]string{{}, {""}, {"span 2"}, {"scope 0", "span 2"}} {
			if got, want := wrapped(code, path...).Error(), textOf(code, path); got != want {
				t.Errorf("Error: %q, want %q", got, want)
			}
		}
	}
}

// 9.2, Ways: whether a fault is of a code is asked by errors.Is, of whatever it is within.
func TestIs(t *testing.T) {
	for _, code := range faultCodes() {
		for _, path := range [][]string{{}, {"span 2"}, {"scope 0", "span 2"}} {
			err := wrapped(code, path...)
			for _, other := range faultCodes() {
				if got := errors.Is(err, fault.New(other)); got != (code == other) {
					t.Errorf("errors.Is(%v, New(%d)): %t", err, other, got)
				}
			}
			if errors.Is(err, fault.New(api.OK)) {
				t.Errorf("errors.Is(%v, New(OK))", err)
			}
		}
	}
}

// 9.1: others' errors are no faults, and none that asks for one falls over them.
func TestOthersErrors(t *testing.T) {
	for _, err := range []error{errors.New("10"), errors.New(""), strconv.ErrRange, errors.Join(errors.New("a"), errors.New("b"))} {
		for _, one := range []error{err, fault.In("a", err), fault.In("a", fault.In("", err))} {
			if !errors.Is(one, err) {
				t.Errorf("%q is not within what In made of it", err)
			}
			wantHas(t, one, api.OK)
			fault.Of(one)
			fault.Path(one)
			fault.Text(one)
		}
	}
}

// 9.3: the class of OK, and of each code that api names.
func TestClassWritten(t *testing.T) {
	for _, one := range []struct {
		code  api.Code
		class api.Class
	}{
		{api.OK, api.Fine},
		{api.ErrCut, api.Malformed},
		{api.ErrTail, api.Malformed},
		{api.ErrForm, api.Malformed},
		{api.ErrRange, api.Malformed},
		{api.ErrText, api.Malformed},
		{api.ErrEscape, api.Malformed},
		{api.ErrKind, api.Malformed},
		{api.ErrTwice, api.Malformed},
		{api.ErrNone, api.Malformed},
		{api.ErrID, api.Malformed},
		{api.ErrTime, api.Malformed},
		{api.ErrOrder, api.Malformed},
		{api.ErrArg, api.Malformed},
		{api.ErrWire, api.Malformed},
		{api.ErrVersion, api.Malformed},
		{api.ErrBatch, api.Invalid},
		{api.ErrSize, api.Limit},
		{api.ErrDeep, api.Limit},
		{api.ErrCount, api.Limit},
		{api.ErrLong, api.Limit},
		{api.ErrWeight, api.Limit},
	} {
		if got := fault.Class(one.code); got != one.class {
			t.Errorf("Class(%d): %d, want %d", one.code, got, one.class)
		}
	}
}

// 9.3: numbers around the codes, and far from them, with the classes' numbers written out.
func TestClass(t *testing.T) {
	for code := -300; code <= 300; code++ {
		want := api.Class(1)
		switch code {
		case 0:
			want = 0
		case 32, 33, 34, 35, 36:
			want = 2
		case 16:
			want = 3
		}
		if got := fault.Class(api.Code(code)); got != want {
			t.Errorf("Class(%d): %d, want %d", code, got, want)
		}
	}
	for _, code := range strange {
		if got := fault.Class(code); got != api.Malformed {
			t.Errorf("Class(%d): %d, want Malformed", code, got)
		}
	}
}
