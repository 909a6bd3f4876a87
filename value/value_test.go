package value_test

import (
	"bytes"
	"math"
	"math/rand"
	"slices"
	"strconv"
	"strings"
	"testing"
	"unicode/utf8"

	"truchman/api"
	"truchman/value"
)

// The calls, just as the chapter has them.
var (
	_ func(v api.Value) api.Code            = value.Check
	_ func(l []api.Attr, deep int) api.Code = value.Entries
	_ func(key string) api.Code             = value.Key
	_ func(a, b api.Value) bool             = value.Same
	_ func(a, b []api.Attr) bool            = value.SameEntries
	_ func(v api.Value) api.Value           = value.Canon
	_ func(l []api.Attr) []api.Attr         = value.CanonEntries
	_ func(v api.Value) int                 = value.Deep
)

// nest is how many lists and maps may stand within one another, longest how many bytes a key may have.
const (
	nest    = 16
	longest = 64
)

// The kinds, written out.
const (
	isNone   = 0
	isText   = 1
	isBool   = 2
	isInt    = 3
	isDouble = 4
	isBytes  = 5
	isList   = 6
	isMap    = 7
)

// entry is a value under a key.
type entry = api.Attr

// none is the value that holds nothing.
var none = api.Value{}

// The values of the other kinds, and entries.
func text(s string) api.Value             { return api.Value{Kind: isText, Text: s} }
func truth(n int) api.Value               { return api.Value{Kind: isBool, Num: n} }
func whole(n int) api.Value               { return api.Value{Kind: isInt, Num: n} }
func double(bits uint64) api.Value        { return api.Value{Kind: isDouble, Bits: bits} }
func raw(s string) api.Value              { return api.Value{Kind: isBytes, Text: s} }
func list(l ...api.Value) api.Value       { return api.Value{Kind: isList, List: l} }
func mapped(l ...api.Attr) api.Value      { return api.Value{Kind: isMap, Map: l} }
func under(key string, v api.Value) entry { return entry{Key: key, Value: v} }
func row(l ...entry) []entry              { return l }

// keyed tells entries that have one value under each of these keys.
func keyed(v api.Value, keys ...string) (l []entry) {
	for _, key := range keys {
		l = append(l, under(key, v))
	}
	return l
}

// told tells all fields of a value, so that two are told alike just where all are the same.
func told(v api.Value) string {
	var b strings.Builder
	tell(&b, v)
	return b.String()
}

func tell(b *strings.Builder, v api.Value) {
	b.WriteString("<" + strconv.Itoa(int(v.Kind)) + " " + strconv.Quote(v.Text) + " " + strconv.Itoa(v.Num) + " " + strconv.FormatUint(v.Bits, 16) + " [")
	for _, inner := range v.List {
		tell(b, inner)
	}
	b.WriteString("] {")
	tellEntries(b, v.Map)
	b.WriteString("}>")
}

func tellEntries(b *strings.Builder, l []entry) {
	for _, e := range l {
		b.WriteString(strconv.Quote(e.Key))
		tell(b, e.Value)
	}
}

// toldEntries likewise, of entries.
func toldEntries(l []entry) string {
	var b strings.Builder
	tellEntries(&b, l)
	return b.String()
}

// wrapped tells a value within n lists or maps: which ones the digits of a number to the base 2 say.
func wrapped(v api.Value, n, which int) api.Value {
	for i := range n {
		if which>>i&1 == 0 {
			v = list(v)
		} else {
			v = mapped(under("k", v))
		}
	}
	return v
}

// turns are some of these numbers: lists alone, maps alone, by turns, and others.
var turns = []int{0, -1, 0x55555555, 0xaaaaaaa, 0x33333333, 1, 0x8000, 0x10000}

// held are the letters of the fields that values of a kind hold.
var held = map[uint8]string{isNone: "", isText: "t", isBool: "n", isInt: "n", isDouble: "b", isBytes: "t", isList: "l", isMap: "m"}

// filled tells the letters of the fields of a value that are not 0 or empty.
func filled(v api.Value) string {
	s := ""
	for _, x := range []struct {
		letter string
		is     bool
	}{{"t", len(v.Text) > 0}, {"n", v.Num != 0}, {"b", v.Bits != 0}, {"l", len(v.List) > 0}, {"m", len(v.Map) > 0}} {
		if x.is {
			s += x.letter
		}
	}
	return s
}

// keyCode tells what is wrong with a key, by the library.
func keyCode(key string) api.Code {
	switch {
	case len(key) == 0:
		return api.ErrNone
	case !utf8.ValidString(key):
		return api.ErrText
	case len(key) > longest:
		return api.ErrLong
	}
	return api.OK
}

// fault is what is wrong at a place: numbers that rise from what is asked first to what is asked last.
type fault struct {
	at   []int
	code api.Code
}

// job is a value that is still to be looked at, within so many others, at a place.
type job struct {
	v    api.Value
	deep int
	at   []int
}

// firstOf tells the first of all faults that values have, made apart from the program: it looks at all of them, by a
// list of what is still to do, whatever is wrong, and then takes the one whose place is least.
func firstOf(jobs []job, faults []fault) api.Code {
	for len(jobs) > 0 {
		last := len(jobs) - 1
		j := jobs[last]
		jobs = jobs[:last]
		for rank, x := range []struct {
			is   bool
			code api.Code
		}{
			{j.v.Kind > isMap, api.ErrKind},
			{strings.ReplaceAll(filled(j.v), held[j.v.Kind], "") != "", api.ErrForm},
			{(j.v.Kind == isList || j.v.Kind == isMap) && j.deep >= nest, api.ErrDeep},
			{j.v.Kind == isText && !utf8.ValidString(j.v.Text), api.ErrText},
			{j.v.Kind == isBool && (j.v.Num < 0 || j.v.Num > 1), api.ErrRange},
		} {
			if x.is {
				faults = append(faults, fault{place(j.at, rank), x.code})
			}
		}
		for i, inner := range j.v.List {
			jobs = append(jobs, job{inner, j.deep + 1, place(j.at, 5, i)})
		}
		moreJobs, moreFaults := ofEntries(j.v.Map, j.deep+1, place(j.at, 5))
		jobs, faults = append(jobs, moreJobs...), append(faults, moreFaults...)
	}
	if len(faults) == 0 {
		return api.OK
	}
	return slices.MinFunc(faults, func(a, b fault) int { return slices.Compare(a.at, b.at) }).code
}

// ofEntries tells the values of entries that are still to be looked at, and what is wrong with their keys.
func ofEntries(l []entry, deep int, at []int) (jobs []job, faults []fault) {
	for i, e := range l {
		if code := keyCode(e.Key); code != api.OK {
			faults = append(faults, fault{place(at, i, 0), code})
		}
		if i > 0 && bytes.Compare([]byte(l[i-1].Key), []byte(e.Key)) >= 0 {
			faults = append(faults, fault{place(at, i, 1), api.ErrOrder})
		}
		jobs = append(jobs, job{e.Value, deep, place(at, i, 2)})
	}
	return jobs, faults
}

// place tells a place within another one.
func place(at []int, more ...int) []int {
	return slices.Concat(at, more)
}

// codeOf tells what is wrong with a value, made apart.
func codeOf(v api.Value) api.Code {
	return firstOf([]job{{v, 0, nil}}, nil)
}

// codeOfEntries likewise, of entries within so many others.
func codeOfEntries(l []entry, deep int) api.Code {
	return firstOf(ofEntries(l, deep, nil))
}

// ownForm tells a value in its own form, made apart: it goes through entries from the last one on, and puts each key
// that was not there ahead of those that are greater.
func ownForm(v api.Value) api.Value {
	own := v
	own.List = nil
	for _, inner := range v.List {
		own.List = append(own.List, ownForm(inner))
	}
	own.Map = ownEntries(v.Map)
	return own
}

// ownEntries likewise, of entries.
func ownEntries(l []entry) []entry {
	var own []entry
	for _, e := range slices.Backward(l) {
		lesser, there := 0, false
		for _, o := range own {
			switch bytes.Compare([]byte(o.Key), []byte(e.Key)) {
			case -1:
				lesser++
			case 0:
				there = true
			}
		}
		if !there {
			own = slices.Insert(own, lesser, under(e.Key, ownForm(e.Value)))
		}
	}
	return own
}

// deepOf tells how many lists and maps are within one another, made apart, from the outermost one on.
func deepOf(v api.Value) int {
	most := 0
	jobs := []job{{v: v}}
	for len(jobs) > 0 {
		j := jobs[0]
		jobs = jobs[1:]
		if j.v.Kind == isList || j.v.Kind == isMap {
			j.deep++
		}
		most = max(most, j.deep)
		for _, inner := range j.v.List {
			jobs = append(jobs, job{v: inner, deep: j.deep})
		}
		for _, e := range j.v.Map {
			jobs = append(jobs, job{v: e.Value, deep: j.deep})
		}
	}
	return most
}

// short tells the beginning of what a value is told as.
func short(v api.Value) string {
	s := told(v)
	return s[:min(len(s), 400)]
}

// wantCheck asks Check of a value, and that the value stays.
func wantCheck(t *testing.T, v api.Value, code api.Code) {
	t.Helper()
	before := told(v)
	if got := value.Check(v); got != code {
		t.Fatalf("Check %s: %d, want %d", short(v), got, code)
	}
	if told(v) != before {
		t.Fatalf("Check changed %.400s", before)
	}
}

// wantCode asks Check of a value: alone, and within others, as far as there is room for it.
func wantCode(t *testing.T, v api.Value, code api.Code) {
	t.Helper()
	wantCheck(t, v, code)
	if got := codeOf(v); got != code {
		t.Fatalf("made apart %s: %d, want %d", short(v), got, code)
	}
	for n := range nest - min(nest, deepOf(v)) + 1 {
		for _, which := range turns {
			wantCheck(t, wrapped(v, n, which), code)
		}
	}
	if deepOf(v) == nest {
		return
	}
	for n := range 4 {
		for i := range n + 1 {
			l := slices.Insert(slices.Repeat([]api.Value{whole(7)}, n), i, v)
			wantCheck(t, list(l...), code)
			m := keyed(whole(7), "a", "b", "c", "d")[:n+1]
			m[i].Value = v
			wantCheck(t, mapped(m...), code)
			wantEntries(t, m, 0, code)
		}
	}
}

// wantEntries asks Entries, and that the entries stay.
func wantEntries(t *testing.T, l []entry, deep int, code api.Code) {
	t.Helper()
	before := toldEntries(l)
	if got := value.Entries(l, deep); got != code {
		t.Fatalf("Entries %.400s, %d: %d, want %d", before, deep, got, code)
	}
	if toldEntries(l) != before {
		t.Fatalf("Entries changed %.400s", before)
	}
}

// wantMap asks Check of a map, and Entries.
func wantMap(t *testing.T, code api.Code, l ...entry) {
	t.Helper()
	wantCode(t, mapped(l...), code)
	for _, deep := range []int{-1, 0, 1, 8, nest - 1} {
		wantEntries(t, l, deep, code)
	}
}

// keys are some that may be, rising: of one byte, of many, of MaxKey of them, of characters of more bytes than one, and
// of which one is the beginning of the other. Others would not rise by the alphabet, nor by the units of 16 bits (so
// with the last three).
var keys = []string{
	"\x00", "\x00\x00", " ", "0", "10", "9", "A", "B", "a", "a\x00", "a.b", "aa", strings.Repeat("a", longest-1), strings.Repeat("a", longest), "ab", "b", "service.name", "\x7f",
	"\xc2\x80", "\xc3\xa9", strings.Repeat("\xc3\xa9", 32), "\xdf\xbf", "\xe0\xa0\x80", "\xe2\x82\xac", strings.Repeat("\xe2\x82\xac", 21), strings.Repeat("\xe2\x82\xac", 21) + "a", "\xef\xbf\xbf", "\xf0\x90\x80\x80", strings.Repeat("\xf0\x9f\x98\x80", 16),
}

// notRight are texts that are not characters' bytes.
var notRight = []string{"\x80", "\xbf", "\xc0", "\xc0\x80", "\xc1\xbf", "\xc3", "\xe2\x82", "\xe0\x80\x80", "\xed\xa0\x80", "\xed\xbf\xbf", "\xf0\x9f\x98", "\xf0\x80\x80\x80", "\xf4\x90\x80\x80", "\xf5\x80\x80\x80", "\xfe", "\xff", "a\xff", "\xffa", "\xe2\x82\xac\xe2", strings.Repeat("a", longest-1) + "\x80"}

// tooLong are keys that are right.
var tooLong = []string{strings.Repeat("a", longest+1), strings.Repeat("\xc3\xa9", 33), strings.Repeat("\xe2\x82\xac", 22), strings.Repeat("\xf0\x9f\x98\x80", 17), strings.Repeat("a", longest-1) + "\xc3\xa9", strings.Repeat("b", 128), strings.Repeat("b", 256+longest), strings.Repeat("b", 65536+1)}

// wantKey asks Key.
func wantKey(t *testing.T, key string, code api.Code) {
	t.Helper()
	if got := value.Key(key); got != code {
		t.Fatalf("Key %.200q: %d, want %d", key, got, code)
	}
	if got := keyCode(key); got != code {
		t.Fatalf("made apart %.200q: %d, want %d", key, got, code)
	}
}

// 24.1: which keys may be, and what is wrong with others.
func TestKey(t *testing.T) {
	for _, key := range keys {
		wantKey(t, key, api.OK)
	}
	for n := 1; n <= longest; n++ {
		wantKey(t, strings.Repeat("x", n), api.OK)
		wantKey(t, strings.Repeat("x", n+longest), api.ErrLong)
	}
	wantKey(t, "", api.ErrNone)
	for _, key := range notRight {
		wantKey(t, key, api.ErrText)
		// Not right and too long, wherever it is not right.
		wantKey(t, key+strings.Repeat("a", longest), api.ErrText)
		wantKey(t, strings.Repeat("a", longest)+key, api.ErrText)
		wantKey(t, strings.Repeat("a", 5000)+key+strings.Repeat("\xc3\xa9", 100), api.ErrText)
	}
	for _, key := range tooLong {
		wantKey(t, key, api.ErrLong)
	}
}

// 24.1: all keys of one byte and of two, and keys by chance.
func TestKeysApart(t *testing.T) {
	for a := range 256 {
		wantKey(t, string([]byte{byte(a)}), keyCode(string([]byte{byte(a)})))
		for b := range 256 {
			key := string([]byte{byte(a), byte(b)})
			wantKey(t, key, keyCode(key))
		}
	}
	chance := rand.New(rand.NewSource(1))
	parts := []string{"a", "\x00", "\x7f", "\xc3\xa9", "\xe2\x82\xac", "\xf0\x9f\x98\x80", "\xef\xbf\xbd", "bcdefgh"}
	for range 50000 {
		key := ""
		for n := chance.Intn(40); n > 0; n-- {
			key += parts[chance.Intn(len(parts))]
		}
		wantKey(t, key, keyCode(key))
		if key != "" && chance.Intn(3) == 0 {
			at := chance.Intn(len(key))
			key = key[:at] + key[at+chance.Intn(2):] + string([]byte{byte(chance.Intn(256))})
			wantKey(t, key, keyCode(key))
		}
	}
}

// rights are values that may be, of each kind.
func rights() []api.Value {
	l := []api.Value{
		none, text(""), text("a"), text("\x00"), text("\xf0\x9f\x98\x80"), text("\xed\x9f\xbf\xee\x80\x80"), text(strings.Repeat("\xe2\x82\xac", 2000)),
		truth(0), truth(1), whole(0), whole(1), whole(2), whole(-1), whole(math.MaxInt), whole(math.MinInt), whole(1 << 53),
		double(0), double(1), double(math.MaxUint64), double(1 << 63), double(math.Float64bits(1)), double(math.Float64bits(math.NaN())), double(math.Float64bits(math.Inf(-1))), double(0x7ff0000000000001),
		raw(""), raw("a"), raw("\xff"), raw("\xc0\x80"), raw("\x00\x80"), raw(strings.Repeat("\xfe", 2000)),
		list(), {Kind: isList, List: []api.Value{}}, list(none), list(text("a")), list(truth(1), truth(0)), list(whole(5), none, text("")), list(list()), list(list(), list(list(), mapped())), list(slices.Repeat([]api.Value{whole(3)}, 1000)...),
		mapped(), {Kind: isMap, Map: []entry{}}, mapped(under("a", none)), mapped(under("a", whole(1)), under("b", text("b"))), mapped(under("a", mapped()), under("aa", mapped(under("a", list(none)))), under("b", list(mapped()))),
		mapped(keyed(whole(1), keys...)...), list(mapped(keyed(list(), keys...)...)), {Kind: isText, List: []api.Value{}, Map: []entry{}},
	}
	for n := range nest {
		for _, which := range turns {
			l = append(l, wrapped(list(), n, which), wrapped(mapped(), n, which), wrapped(text("deep"), n+1, which))
		}
	}
	return l
}

// 24.2: values of each kind that may be, alone and within others.
func TestMay(t *testing.T) {
	for _, v := range rights() {
		wantCode(t, v, api.OK)
	}
	for b := range 64 {
		wantCode(t, double(1<<b), api.OK)
		wantCode(t, whole(1<<b), api.OK)
		wantCode(t, whole(-1<<b), api.OK)
	}
	wantEntries(t, nil, 0, api.OK)
	wantEntries(t, []entry{}, nest, api.OK)
	wantMap(t, api.OK, keyed(whole(1), keys...)...)
	for i, a := range keys {
		wantMap(t, api.OK, under(a, text("v")))
		for _, b := range keys[i+1:] {
			wantMap(t, api.OK, under(a, list()), under(b, none))
		}
	}
}

// fields are values of no kind of which just one field is not 0 or empty.
var fields = []api.Value{
	{Text: "a"}, {Text: "\xff"}, {Num: 1}, {Num: -1}, {Num: 2}, {Num: 1 << 32}, {Num: math.MinInt}, {Bits: 1}, {Bits: 1 << 63}, {Bits: 1 << 32},
	{List: []api.Value{{}}}, {List: []api.Value{{Kind: 9}}}, {List: []api.Value{{}, {}}}, {Map: []entry{{}}}, {Map: []entry{{Key: "a"}}}, {Map: []entry{{Key: "b"}, {Key: "a"}}},
}

// 24.2: a kind above ValMap, whatever else is wrong.
func TestNoKind(t *testing.T) {
	for kind := 8; kind < 256; kind++ {
		wantCheck(t, api.Value{Kind: uint8(kind)}, api.ErrKind)
		for _, v := range fields {
			v.Kind = uint8(kind)
			wantCheck(t, v, api.ErrKind)
			wantCheck(t, wrapped(v, nest, 0), api.ErrKind)
			wantCheck(t, wrapped(v, nest, -1), api.ErrKind)
		}
	}
	wantCode(t, api.Value{Kind: 8}, api.ErrKind)
	wantCode(t, api.Value{Kind: 255, Text: "\xff", Num: 2, Bits: 1}, api.ErrKind)
}

// 24.2: for each kind each field that it does not hold.
func TestForm(t *testing.T) {
	for kind := range uint8(8) {
		for _, v := range fields {
			v.Kind = kind
			if strings.Contains(held[kind], filled(v)) {
				continue
			}
			wantCode(t, v, api.ErrForm)
			// Also beside what it holds, whether that is right or not.
			for _, with := range fields {
				with.Kind = kind
				if !strings.Contains(held[kind], filled(with)) {
					continue
				}
				with.Text, with.Num, with.Bits = with.Text+v.Text, with.Num|v.Num, with.Bits|v.Bits
				with.List, with.Map = append(slices.Clip(v.List), with.List...), append(slices.Clip(v.Map), with.Map...)
				wantCode(t, with, api.ErrForm)
			}
		}
	}
}

// 24.2: lists and maps within so many others, also empty ones, and what is wrong within those that are too deep.
func TestTooDeep(t *testing.T) {
	inmost := []api.Value{list(), mapped(), list(none), mapped(under("a", none)), list(text("\xff")), list(api.Value{Kind: 8}), mapped(under("", none)), mapped(under("b", none), under("a", none)), list(list()), wrapped(list(), 40, 0x5555)}
	for _, v := range inmost {
		for n := nest; n < nest+8; n++ {
			for _, which := range turns {
				wantCheck(t, wrapped(v, n, which), api.ErrDeep)
			}
		}
	}
	for n := range 2 * nest {
		for _, which := range turns {
			code := api.OK
			if n > nest {
				code = api.ErrDeep
			}
			for _, v := range []api.Value{none, text("a"), truth(1), whole(-5), double(1), raw("\xff")} {
				wantCheck(t, wrapped(v, n, which), code)
			}
		}
	}
	for which := range 1 << nest {
		if got := value.Check(wrapped(list(), nest-1, which)); got != api.OK {
			t.Fatal(which, got)
		}
		if got := value.Check(wrapped(list(), nest, which)); got != api.ErrDeep {
			t.Fatal(which, got)
		}
	}
	wantCheck(t, list(whole(1), wrapped(whole(1), nest-1, 0), wrapped(whole(1), nest-1, -1)), api.OK)
	wantCheck(t, list(whole(1), wrapped(whole(1), nest-1, 0), wrapped(whole(1), nest, -1)), api.ErrDeep)
}

// 24.2: Entries at each depth, and beyond.
func TestEntriesDeep(t *testing.T) {
	depths := []int{math.MinInt, math.MinInt + 1, -1 << 32, math.MaxInt - 1, math.MaxInt, 1 << 32, 1 << 16}
	for deep := -20; deep < 40; deep++ {
		depths = append(depths, deep)
	}
	for _, deep := range depths {
		for n := range 40 {
			code := api.OK
			if n > 0 && deep > nest-n {
				code = api.ErrDeep
			}
			for _, which := range turns {
				l := row(under("a", whole(1)), under("b", wrapped(whole(1), n, which)))
				wantEntries(t, l, deep, code)
				if deep < 1<<16 && codeOfEntries(l, deep) != code {
					t.Fatal("made apart", deep, n, which)
				}
			}
		}
		wantEntries(t, row(under("a", api.Value{Kind: isList, Num: 1})), deep, api.ErrForm)
		wantEntries(t, row(under("a", api.Value{Kind: 9, List: []api.Value{none}})), deep, api.ErrKind)
		wantEntries(t, row(under("", list())), deep, api.ErrNone)
		wantEntries(t, row(under("b", none), under("a", list())), deep, api.ErrOrder)
	}
}

// 24.2: texts that are not right, and truths that are none.
func TestTextAndRange(t *testing.T) {
	for _, s := range notRight {
		for _, x := range []string{s, s + "a", "a" + s, strings.Repeat("\xe2\x82\xac", 1000) + s} {
			if utf8.ValidString(x) {
				t.Fatal(x)
			}
			wantCode(t, text(x), api.ErrText)
			wantCode(t, raw(x), api.OK)
		}
	}
	for _, n := range []int{2, 3, -1, -2, 255, 256, 257, 1 << 32, 1<<32 + 1, math.MaxInt, math.MinInt, math.MinInt + 1} {
		wantCode(t, truth(n), api.ErrRange)
		wantCode(t, whole(n), api.OK)
	}
}

// 24.2: keys that are wrong, and keys that do not rise.
func TestKeysOfEntries(t *testing.T) {
	for _, v := range []api.Value{none, whole(1), list(), {Kind: 8}, {Num: 1}, text("\xff"), mapped(under("", none))} {
		wantMap(t, api.ErrNone, under("", v))
		wantMap(t, api.ErrNone, under("a", none), under("", v))
		for _, key := range notRight {
			wantMap(t, api.ErrText, under(key, v))
			wantMap(t, api.ErrText, under("a", none), under(key, v))
			wantMap(t, api.ErrText, under("z", none), under(key+strings.Repeat("a", longest), v))
		}
		for _, key := range tooLong[:4] {
			wantMap(t, api.ErrLong, under(key, v))
			wantMap(t, api.ErrLong, under("\x01", none), under(key, v))
			wantMap(t, api.ErrLong, under(keys[len(keys)-1], none), under(key, v))
		}
		for i, a := range keys {
			for _, b := range keys[:i+1] {
				wantEntries(t, row(under(a, none), under(b, v)), 0, api.ErrOrder)
			}
		}
	}
	wantMap(t, api.ErrOrder, keyed(none, "b", "a")...)
	wantMap(t, api.ErrOrder, keyed(none, "a", "a")...)
	wantMap(t, api.ErrOrder, keyed(none, "aa", "a")...)
	wantMap(t, api.ErrOrder, keyed(none, "a", "b", "a")...)
	wantMap(t, api.ErrOrder, keyed(none, "a", "c", "b", "d")...)
	wantMap(t, api.ErrOrder, keyed(none, "a", "b", "c", "c")...)
	wantMap(t, api.ErrOrder, keyed(none, "\xf0\x90\x80\x80", "\xef\xbf\xbf")...)
	wantMap(t, api.OK, keyed(none, "\xef\xbf\xbf", "\xf0\x90\x80\x80")...)
}

// wrongs are values that are wrong, of each code, as deep as they need be.
var wrongs = []struct {
	v    api.Value
	code api.Code
}{
	{api.Value{Kind: 8}, api.ErrKind},
	{api.Value{Num: 1}, api.ErrForm},
	{wrapped(list(), nest+1, 0x5555), api.ErrDeep},
	{text("\xff"), api.ErrText},
	{truth(2), api.ErrRange},
	{mapped(under("", none)), api.ErrNone},
	{mapped(under("\xff", none)), api.ErrText},
	{mapped(under(strings.Repeat("a", longest+1), none)), api.ErrLong},
	{mapped(under("b", none), under("a", none)), api.ErrOrder},
	{list(none, api.Value{Kind: 8}), api.ErrKind},
	{mapped(under("a", truth(-1))), api.ErrRange},
}

// 24.2: of two values that are wrong the first one counts, however deep, and of what is wrong with an entry the key.
func TestFirstOfTwo(t *testing.T) {
	for _, x := range wrongs {
		wantCode(t, x.v, x.code)
		for _, y := range wrongs {
			for _, v := range []api.Value{
				list(x.v, y.v), list(none, x.v, list(), y.v, none), list(list(x.v), y.v), list(x.v, list(list(y.v))), list(list(x.v, y.v)),
				mapped(under("a", x.v), under("b", y.v)), mapped(under("a", list(none, x.v)), under("b", y.v)), list(mapped(under("k", x.v)), y.v),
				mapped(under("a", x.v), under("", y.v)), mapped(under("a", x.v), under("a", y.v)), mapped(under("a", x.v), under("\xff", y.v)),
			} {
				wantCheck(t, v, x.code)
			}
			wantEntries(t, row(under("a", x.v), under("b", y.v)), 0, x.code)
			wantEntries(t, row(under("b", x.v), under("a", y.v)), 0, x.code)
			wantEntries(t, row(under("b", none), under("a", y.v), under("c", x.v)), 0, api.ErrOrder)
			wantEntries(t, row(under("", x.v), under("a", y.v)), 0, api.ErrNone)
			wantEntries(t, row(under("b", list(none)), under("\xff", x.v), under("", y.v)), 0, api.ErrText)
		}
	}
}

// 24.2: of what is wrong with one value, as the chapter lists it.
func TestFirstOfOne(t *testing.T) {
	for _, x := range []struct {
		v    api.Value
		code api.Code
	}{
		{api.Value{Kind: 8, Text: "\xff", Num: 2, Bits: 1, List: []api.Value{{Kind: 9}}, Map: []entry{{}}}, api.ErrKind},
		{api.Value{Kind: isText, Text: "\xff", Num: 1}, api.ErrForm},
		{api.Value{Kind: isBool, Num: 2, Bits: 1}, api.ErrForm},
		{api.Value{Kind: isBool, Num: 2, Text: "\xff"}, api.ErrForm},
		{api.Value{Kind: isList, Bits: 1, List: []api.Value{{Kind: 8}}}, api.ErrForm},
		{api.Value{Kind: isList, List: []api.Value{{Kind: 8}}, Map: []entry{{}}}, api.ErrForm},
		{api.Value{Kind: isMap, Text: "a", Map: []entry{{}}}, api.ErrForm},
		{api.Value{Kind: isMap, List: []api.Value{{Kind: 8}}, Map: []entry{{}}}, api.ErrForm},
		{wrapped(api.Value{Kind: 8, Num: 1}, nest, 0), api.ErrKind},
		{wrapped(api.Value{Kind: isList, Num: 1}, nest, 0), api.ErrForm},
		{wrapped(api.Value{Kind: isMap, Text: "\xff"}, nest, -1), api.ErrForm},
		{wrapped(list(text("\xff")), nest, -1), api.ErrDeep},
		{wrapped(text("\xff"), nest, -1), api.ErrText},
		{wrapped(truth(2), nest, 0), api.ErrRange},
		{wrapped(mapped(under("", none)), nest-1, 0), api.ErrNone},
		{wrapped(mapped(under("", none)), nest, 0), api.ErrDeep},
	} {
		wantCheck(t, x.v, x.code)
		if got := codeOf(x.v); got != x.code {
			t.Fatalf("made apart %s: %d, want %d", short(x.v), got, x.code)
		}
	}
}

// product tells all values of some fields each.
func product(kinds []uint8, texts []string, nums []int, doubles []uint64, lists [][]api.Value, maps [][]entry) []api.Value {
	var l []api.Value
	for _, kind := range kinds {
		for _, s := range texts {
			for _, n := range nums {
				for _, b := range doubles {
					for _, inner := range lists {
						for _, entries := range maps {
							l = append(l, api.Value{Kind: kind, Text: s, Num: n, Bits: b, List: inner, Map: entries})
						}
					}
				}
			}
		}
	}
	return l
}

// 24.2: values of all fields, right and wrong ones, together, also as deep as may be, against what is made apart.
func TestAllFields(t *testing.T) {
	deepest := wrapped(none, nest, 0)
	for _, v := range product(
		[]uint8{0, 1, 2, 3, 4, 5, 6, 7, 8, 9, 14, 128, 255},
		[]string{"", "a", "\xff"},
		[]int{0, 1, 2, -1},
		[]uint64{0, 1, 1 << 63},
		[][]api.Value{nil, {}, {none}, {none, {Kind: 8}}, {deepest}},
		[][]entry{nil, {}, {under("a", none)}, {under("", none)}, {under("a", list()), under("a", none)}},
	) {
		wantCheck(t, v, codeOf(v))
		around := wrapped(v, nest, 0x5555)
		wantCheck(t, around, codeOf(around))
	}
}

// byChance tells a value that may be, with room for so many lists and maps within one another.
func byChance(chance *rand.Rand, room int) api.Value {
	texts := []string{"", "a", "b", "ab", "\x00", "\xe2\x82\xac", "\xf0\x9f\x98\x80", "\xef\xbf\xbf"}
	kind := chance.Intn(8)
	if kind < isList && room > 0 && chance.Intn(3) == 0 {
		kind = isList + chance.Intn(2)
	}
	switch {
	case kind == isText:
		return text(texts[chance.Intn(len(texts))])
	case kind == isBool:
		return truth(chance.Intn(2))
	case kind == isInt:
		return whole(int(chance.Uint64()) >> chance.Intn(64))
	case kind == isDouble:
		return double(chance.Uint64() >> chance.Intn(64))
	case kind == isBytes:
		return raw([]string{"", "\xff", "\x80a", "a"}[chance.Intn(4)])
	case kind == isList && room > 0:
		v := list()
		for range chance.Intn(4) {
			v.List = append(v.List, byChance(chance, room-1))
		}
		return v
	case kind == isMap && room > 0:
		v := mapped()
		for i := chance.Intn(9); i < len(keys) && len(v.Map) < 4; i += 1 + chance.Intn(9) {
			v.Map = append(v.Map, under(keys[i], byChance(chance, room-1)))
		}
		return v
	}
	return none
}

// copied tells a value that shares nothing with another one.
func copied(v api.Value) api.Value {
	v.List, v.Map = slices.Clone(v.List), slices.Clone(v.Map)
	for i := range v.List {
		v.List[i] = copied(v.List[i])
	}
	for i := range v.Map {
		v.Map[i].Value = copied(v.Map[i].Value)
	}
	return v
}

// inside tells where all values are that are within one, and it itself.
func inside(v *api.Value) []*api.Value {
	l := []*api.Value{v}
	for i := range v.List {
		l = append(l, inside(&v.List[i])...)
	}
	for i := range v.Map {
		l = append(l, inside(&v.Map[i].Value)...)
	}
	return l
}

// worn tells a copy of a value in which one field was changed, or one part left out, told again, exchanged or put within.
func worn(chance *rand.Rand, v api.Value) api.Value {
	v = copied(v)
	all := inside(&v)
	x := all[chance.Intn(len(all))]
	texts := []string{"", "a", "b", "\xff", "\xe2\x82", "\xe2\x82\xac", strings.Repeat("a", longest+1)}
	switch chance.Intn(9) {
	case 0:
		x.Kind = uint8(chance.Intn(10))
	case 1:
		x.Text = texts[chance.Intn(len(texts))]
	case 2:
		x.Num = chance.Intn(5) - 2
	case 3:
		x.Bits ^= 1 << chance.Intn(64)
	case 4:
		if x.Kind != isList {
			*x = list(*x)
		}
		x.List = slices.Insert(x.List, chance.Intn(len(x.List)+1), copied(*all[chance.Intn(len(all))]))
	case 5:
		if x.Kind != isMap {
			*x = mapped(under("a", *x))
		}
		x.Map = slices.Insert(x.Map, chance.Intn(len(x.Map)+1), under([]string{texts[chance.Intn(len(texts))], keys[chance.Intn(len(keys))]}[chance.Intn(2)], none))
	case 6:
		*x = wrapped(*x, 1+chance.Intn(nest+2), chance.Intn(1<<20))
	case 7:
		if n := len(x.List); n > 0 {
			i, j := chance.Intn(n), chance.Intn(n)
			x.List[i], x.List[j] = x.List[j], x.List[i]
		}
	case 8:
		if n := len(x.Map); n > 0 {
			i, j := chance.Intn(n), chance.Intn(n)
			x.Map[i], x.Map[j] = x.Map[j], x.Map[i]
		}
	}
	return v
}

// 24.1 to 24.3: values by chance, whole and worn, against what is made apart.
func TestChance(t *testing.T) {
	chance := rand.New(rand.NewSource(24))
	counts := map[api.Code]int{}
	for i := range 6000 {
		v := byChance(chance, i%7)
		wantCheck(t, v, api.OK)
		wantCanon(t, v, v)
		for range 4 {
			before := v
			v = worn(chance, v)
			code := codeOf(v)
			counts[code]++
			wantCheck(t, v, code)
			wantEntries(t, v.Map, i%nest, codeOfEntries(v.Map, i%nest))
			wantCanon(t, v, ownForm(v))
			wantDeep(t, v, deepOf(v))
			wantSame(t, before, v, told(before) == told(v))
		}
	}
	for _, code := range []api.Code{api.OK, api.ErrKind, api.ErrForm, api.ErrDeep, api.ErrText, api.ErrRange, api.ErrNone, api.ErrLong, api.ErrOrder} {
		if counts[code] < 100 {
			t.Errorf("code %d came %d times", code, counts[code])
		}
	}
}

// wantSame asks Same of two values, from both sides, and SameEntries of entries with them.
func wantSame(t *testing.T, a, b api.Value, is bool) {
	t.Helper()
	before := [2]string{told(a), told(b)}
	for _, x := range []struct {
		a, b api.Value
		is   bool
	}{{a, b, is}, {b, a, is}, {a, a, true}, {b, b, true}, {copied(a), a, true}} {
		if got := value.Same(x.a, x.b); got != x.is {
			t.Fatalf("Same %s and %s: %t", short(x.a), short(x.b), got)
		}
		if got := value.SameEntries(row(under("k", x.a)), row(under("k", x.b))); got != x.is {
			t.Fatalf("SameEntries %s and %s: %t", short(x.a), short(x.b), got)
		}
	}
	if told(a) != before[0] || told(b) != before[1] {
		t.Fatalf("Same changed %.400s or %.400s", before[0], before[1])
	}
}

// 24.3: values that differ from each other, each from all others, wherever that is.
func TestSame(t *testing.T) {
	l := []api.Value{
		none, {Num: 1}, {Bits: 1}, {Text: "a"}, {Kind: 8}, {Kind: 255}, {Kind: 255, Text: "a"},
		text(""), text("a"), text("b"), text("aa"), text("A"), text("\xff"), text("\xc3\xa9"), text("e\xcc\x81"), raw("a"), raw(""),
		truth(0), truth(1), truth(2), whole(0), whole(1), whole(-1), whole(1 << 32), whole(math.MinInt), whole(math.MaxInt),
		double(0), double(1 << 63), double(math.Float64bits(1)), double(math.Float64bits(math.NaN())), double(math.Float64bits(math.NaN()) ^ 1), double(1),
		list(), list(none), list(none, none), list(list()), list(list(), none), list(none, list()), list(whole(1), whole(2)), list(whole(2), whole(1)), list(whole(1)), list(double(0)), list(double(1 << 63)),
		mapped(), mapped(under("a", none)), mapped(under("b", none)), mapped(under("", none)), mapped(under("a", whole(1))), mapped(keyed(none, "a", "b")...), mapped(keyed(none, "b", "a")...), mapped(keyed(none, "a", "a")...), mapped(under("a", list(mapped()))), mapped(under("a", mapped(under("a", none)))),
		{Kind: isList, Map: keyed(none, "a")}, {Kind: isMap, List: []api.Value{{}}}, {Kind: isText, List: []api.Value{{}}}, {Kind: isText, Map: keyed(none, "a")}, {Kind: isText, Num: 1}, {Kind: isText, Bits: 1}, {Kind: isList, Num: 1},
	}
	for i, a := range l {
		for j, b := range l {
			wantSame(t, a, b, i == j)
			for n := range 20 {
				wantSame(t, wrapped(a, n, 0x5555), wrapped(b, n, 0x5555), i == j)
			}
			wantSame(t, list(none, a), list(none, b), i == j)
			wantSame(t, mapped(under("a", a), under("b", none)), mapped(under("a", b), under("b", none)), i == j)
		}
	}
}

// 24.3: a list that is nil is the same as one without elements, and what lies behind a list's length does not matter.
func TestSameNil(t *testing.T) {
	values, entries := []api.Value{whole(1), whole(2)}, keyed(whole(1), "a", "b")
	others, otherEntries := []api.Value{whole(1), whole(3)}, keyed(whole(1), "a", "c")
	for _, kind := range []uint8{isNone, isText, isList, isMap, 8} {
		a := api.Value{Kind: kind}
		for _, b := range []api.Value{{Kind: kind, List: []api.Value{}}, {Kind: kind, Map: []entry{}}, {Kind: kind, List: values[:0], Map: entries[:0]}} {
			wantSame(t, a, b, true)
			wantSame(t, list(a), list(b), true)
		}
	}
	wantSame(t, list(values[:1]...), list(others[:1]...), true)
	wantSame(t, mapped(entries[:1]...), mapped(otherEntries[:1]...), true)
	if !value.SameEntries(nil, nil) || !value.SameEntries(nil, []entry{}) || !value.SameEntries(entries[:0], nil) || value.SameEntries(nil, entries) || value.SameEntries(entries, nil) {
		t.Error("entries that are none")
	}
	for i := range 3 {
		for j := range 3 {
			if value.SameEntries(entries[:i], entries[:j]) != (i == j) || value.SameEntries(entries[:i], otherEntries[:j]) != (i == j && i < 2) {
				t.Error(i, j)
			}
		}
	}
}

// 24.3: values of all fields together, each against each, by what they are told as.
func TestSameAllFields(t *testing.T) {
	l := product(
		[]uint8{isNone, isText, isList, isMap, 9},
		[]string{"", "a", "b"},
		[]int{0, -1},
		[]uint64{0, 1 << 63},
		[][]api.Value{nil, {}, {none}, {whole(1)}, {none, whole(1)}, {whole(1), none}},
		[][]entry{nil, {}, keyed(none, "a"), keyed(none, "b"), keyed(whole(1), "a"), keyed(none, "a", "b"), keyed(none, "b", "a")},
	)
	s := make([]string, len(l))
	for i, v := range l {
		s[i] = told(v)
	}
	for i, a := range l {
		for j, b := range l {
			if value.Same(a, b) != (s[i] == s[j]) {
				t.Fatal(s[i], s[j])
			}
		}
	}
}

// elements tells where all elements of all lists of a value are, with those behind their lengths.
func elements(v api.Value) (values []*api.Value, entries []*entry) {
	return elementsOf(v.List, v.Map)
}

func elementsOf(l []api.Value, m []entry) (values []*api.Value, entries []*entry) {
	for i := range cap(l) {
		values = append(values, &l[:cap(l)][i])
	}
	for i := range cap(m) {
		entries = append(entries, &m[:cap(m)][i])
	}
	for _, v := range l {
		moreValues, moreEntries := elements(v)
		values, entries = append(values, moreValues...), append(entries, moreEntries...)
	}
	for _, e := range m {
		moreValues, moreEntries := elements(e.Value)
		values, entries = append(values, moreValues...), append(entries, moreEntries...)
	}
	return values, entries
}

// isApart tells whether no two of the elements of new are one, and none is one of old.
func isApart[T any](news, olds []*T) bool {
	there := map[*T]int{}
	for _, p := range olds {
		there[p] = 1
	}
	for _, p := range news {
		if there[p]++; there[p] > 1 {
			return false
		}
	}
	return true
}

// wantCanon asks Canon of a value, that the value stays, and that the answer is memory of its own; and that it is its own
// form.
func wantCanon(t *testing.T, v, want api.Value) {
	t.Helper()
	before := told(v)
	got := value.Canon(v)
	if told(got) != told(want) {
		t.Fatalf("Canon %.400s: %s, want %s", before, short(got), short(want))
	}
	if told(v) != before {
		t.Fatalf("Canon changed %.400s", before)
	}
	values, entries := elements(got)
	oldValues, oldEntries := elements(v)
	if !isApart(values, oldValues) || !isApart(entries, oldEntries) {
		t.Fatalf("Canon %.400s: memory is shared", before)
	}
	if again := value.Canon(got); told(again) != told(want) {
		t.Fatalf("Canon %s: %s", short(got), short(again))
	}
	if got := value.CanonEntries(v.Map); toldEntries(got) != toldEntries(want.Map) {
		t.Fatalf("CanonEntries %.400s: %s", before, toldEntries(got))
	}
}

// 24.3: what is its own form already stays, whatever may be is, and none of it is shared.
func TestCanonOwn(t *testing.T) {
	for _, v := range rights() {
		wantCanon(t, v, v)
		wantCanon(t, list(none, v), list(none, v))
		wantCanon(t, mapped(under("a", v), under("b", v)), mapped(under("a", v), under("b", v)))
	}
	for _, x := range wrongs {
		if x.code == api.ErrOrder {
			continue
		}
		wantCanon(t, x.v, x.v)
		wantCanon(t, list(x.v, none, x.v), list(x.v, none, x.v))
		wantCanon(t, wrapped(x.v, 40, 0x33333), wrapped(x.v, 40, 0x33333))
	}
}

// 24.3: keys that fall, and that come more than once.
func TestCanon(t *testing.T) {
	one, two, three, four := whole(1), whole(2), whole(3), whole(4)
	for _, x := range []struct{ l, want []entry }{
		{row(under("b", one), under("a", one), under("b", two)), row(under("a", one), under("b", two))},
		{row(under("b", one), under("a", two)), row(under("a", two), under("b", one))},
		{row(under("c", one), under("b", two), under("a", three)), row(under("a", three), under("b", two), under("c", one))},
		{row(under("a", one), under("a", two)), row(under("a", two))},
		{row(under("a", one), under("a", two), under("a", three)), row(under("a", three))},
		{row(under("a", three), under("b", two), under("a", one)), row(under("a", one), under("b", two))},
		{row(under("a", one), under("b", two), under("a", three), under("b", four)), row(under("a", three), under("b", four))},
		{row(under("a", one), under("a", none)), row(under("a", none))},
		{row(under("b", one), under("", two), under("\xff", three), under("b", four)), row(under("", two), under("b", four), under("\xff", three))},
		{keyed(one, "aa", "a", "b", "ab", "a\x00"), keyed(one, "a", "a\x00", "aa", "ab", "b")},
		{keyed(one, "\xf0\x90\x80\x80", "\xef\xbf\xbf", "z", "\x00", "Z"), keyed(one, "\x00", "Z", "z", "\xef\xbf\xbf", "\xf0\x90\x80\x80")},
		{keyed(one, strings.Repeat("b", 100), strings.Repeat("a", 100), strings.Repeat("a", 99)), keyed(one, strings.Repeat("a", 99), strings.Repeat("a", 100), strings.Repeat("b", 100))},
		// Nothing of what a later entry takes the place of is left.
		{row(under("a", mapped(under("x", one))), under("a", mapped(under("y", two)))), row(under("a", mapped(under("y", two))))},
		{row(under("a", list(one)), under("b", one), under("a", list(two, three)), under("a", list())), row(under("a", list()), under("b", one))},
		{nil, nil},
	} {
		v, want := mapped(x.l...), mapped(x.want...)
		wantCanon(t, v, want)
		for n := range 20 {
			wantCanon(t, wrapped(v, n, 0x5555), wrapped(want, n, 0x5555))
		}
		wantCanon(t, list(none, v, one, v), list(none, want, one, want))
		wantCanon(t, mapped(under("z", v), under("a", list(v))), mapped(under("a", list(want)), under("z", want)))
		// In what a later entry takes the place of, and in the one that does.
		wantCanon(t, mapped(under("a", v), under("b", one), under("a", two)), mapped(under("a", two), under("b", one)))
		wantCanon(t, mapped(under("a", two), under("b", one), under("a", v)), mapped(under("a", want), under("b", one)))
		// Whatever the kind says.
		for kind := range uint8(10) {
			v.Kind, want.Kind = kind, kind
			v.Text, want.Text, v.Num, want.Num, v.Bits, want.Bits = "\xff", "\xff", 2, 2, 3, 3
			wantCanon(t, v, want)
			wantCanon(t, api.Value{Kind: kind, List: []api.Value{v, none}, Map: row(under("b", v), under("a", v))}, api.Value{Kind: kind, List: []api.Value{want, none}, Map: row(under("a", want), under("b", want))})
		}
	}
}

// 24.3: all lists of up to four entries of few keys, and long ones by chance, which come alike each time.
func TestCanonKeys(t *testing.T) {
	few := []string{"", "a", "aa", "b", "\xff"}
	var each func(l []entry, more int)
	each = func(l []entry, more int) {
		wantCanon(t, mapped(l...), mapped(ownEntries(l)...))
		if more == 0 {
			return
		}
		for _, key := range few {
			each(append(slices.Clone(l), under(key, whole(len(l)))), more-1)
		}
	}
	each(nil, 4)
	chance := rand.New(rand.NewSource(3))
	for range 300 {
		var l []entry
		for i := range chance.Intn(200) {
			l = append(l, under(strconv.Itoa(chance.Intn(150)), whole(i)))
		}
		for range 3 {
			wantCanon(t, mapped(l...), mapped(ownEntries(l)...))
		}
	}
}

// 24.3: what lies behind a list's length is neither told nor written, and lists that a value has twice are two in the
// answer.
func TestCanonRoom(t *testing.T) {
	values, entries := []api.Value{whole(1), whole(2), whole(3)}, keyed(whole(1), "b", "a", "c")
	v := list(api.Value{Kind: isList, List: values[:1]}, mapped(entries[:2]...), mapped(entries[:2]...), api.Value{Kind: isList, List: values[:1]}, list(values[:0]...))
	want := list(list(whole(1)), mapped(keyed(whole(1), "a", "b")...), mapped(keyed(whole(1), "a", "b")...), list(whole(1)), list())
	wantCanon(t, v, want)
	wantCanon(t, mapped(under("b", v), under("a", v)), mapped(under("a", want), under("b", want)))
	if got := told(list(values...)) + told(mapped(entries...)); got != told(list(whole(1), whole(2), whole(3)))+told(mapped(keyed(whole(1), "b", "a", "c")...)) {
		t.Error(got)
	}
	got := value.CanonEntries(entries[:2])
	got = append(got, under("z", none))
	got[0].Key = "y"
	if entries[0].Key != "b" || entries[1].Key != "a" || entries[2].Key != "c" {
		t.Error(entries)
	}
}

// wantDeep asks Deep of a value, and that the value stays.
func wantDeep(t *testing.T, v api.Value, want int) {
	t.Helper()
	before := told(v)
	if got := value.Deep(v); got != want {
		t.Fatalf("Deep %.400s: %d, want %d", before, got, want)
	}
	if told(v) != before {
		t.Fatalf("Deep changed %.400s", before)
	}
}

// 24.3: how many lists and maps are within one another: a value counts by its kind, and what is within is gone through
// whatever the kind says.
func TestDeep(t *testing.T) {
	for _, x := range []struct {
		v    api.Value
		want int
	}{
		{none, 0}, {text("a"), 0}, {truth(1), 0}, {whole(1), 0}, {double(1), 0}, {raw("a"), 0}, {api.Value{Kind: 8}, 0}, {api.Value{Kind: 255}, 0},
		{list(), 1}, {mapped(), 1}, {api.Value{Kind: isList, List: []api.Value{}}, 1}, {api.Value{Kind: isMap, Map: []entry{}}, 1},
		{list(none), 1}, {mapped(under("a", none)), 1}, {list(list()), 2}, {list(mapped()), 2}, {mapped(under("a", list())), 2}, {mapped(under("", mapped())), 2},
		{list(list(list()), none), 3}, {list(none, list(list())), 3}, {list(list(), list(list()), list()), 3},
		{mapped(under("a", list(list())), under("b", none)), 3}, {mapped(under("a", none), under("b", list(list()))), 3}, {mapped(under("b", list()), under("b", none)), 2},
		{api.Value{List: []api.Value{list()}}, 1}, {api.Value{Kind: isText, List: []api.Value{none}}, 0}, {api.Value{Kind: isInt, Map: row(under("a", list(mapped())))}, 2}, {api.Value{Kind: 9, Map: row(under("a", list()))}, 1},
		{api.Value{Kind: isList, Map: row(under("a", list()))}, 2}, {api.Value{Kind: isMap, List: []api.Value{mapped()}}, 2},
		{api.Value{Kind: isList, List: []api.Value{list()}, Map: row(under("a", list(list())))}, 3}, {api.Value{Kind: isMap, List: []api.Value{list(list())}, Map: row(under("a", list()))}, 3},
	} {
		wantDeep(t, x.v, x.want)
		if got := deepOf(x.v); got != x.want {
			t.Fatalf("made apart %s: %d, want %d", short(x.v), got, x.want)
		}
		for n := range 40 {
			for _, which := range turns {
				wantDeep(t, wrapped(x.v, n, which), x.want+n)
				wantDeep(t, list(wrapped(x.v, n, which), list()), 1+max(1, x.want+n))
			}
		}
	}
}

// P0: what is as deep as may be at all, and what is long, ends.
func TestGreat(t *testing.T) {
	const levels = 1 << 16
	for _, which := range turns[:3] {
		v, other := wrapped(text("a"), levels, which), wrapped(text("b"), levels, which)
		if code := value.Check(v); code != api.ErrDeep {
			t.Error(which, code)
		}
		if code := value.Entries(row(under("a", v)), nest-levels); code != api.OK {
			t.Error(which, code)
		}
		if code := value.Entries(row(under("a", v)), nest-levels+1); code != api.ErrDeep {
			t.Error(which, code)
		}
		if got := value.Deep(v); got != levels {
			t.Error(which, got)
		}
		if own := value.Canon(v); !value.Same(v, own) || value.Same(v, other) || value.Deep(own) != levels {
			t.Error(which)
		}
	}
	var falls, rises []entry
	for i := range 100000 {
		key := strconv.Itoa(1000000 + i)
		rises = append(rises, under(key, whole(i)))
	}
	falls = slices.Clone(rises)
	slices.Reverse(falls)
	if !value.SameEntries(value.CanonEntries(falls), rises) || value.Entries(rises, 0) != api.OK || value.Entries(falls, 0) != api.ErrOrder {
		t.Error("long entries")
	}
	long := list(slices.Repeat([]api.Value{whole(1)}, 300000)...)
	if value.Check(long) != api.OK || value.Deep(long) != 1 || !value.Same(value.Canon(long), long) {
		t.Error("a long list")
	}
}
