package jpick_test

import (
	"fmt"
	"math"
	"math/big"
	"math/rand"
	"reflect"
	"slices"
	"strconv"
	"strings"
	"testing"

	"truchman/api"
	"truchman/jnum"
	"truchman/jpick"
	"truchman/jtree"
)

// value is a value in JSON: its kind, and what it is as that.
type value struct {
	s     string
	kind  byte     // as a node has it (13.1)
	text  string   // of a text: the bytes for which it stands
	whole int      // of a number: what it is worth
	code  api.Code // of a number: what is wrong with it as a whole one
	kids  []int    // of a list: where its values are, behind its own place
	size  int      // how many nodes it has
}

var values = []value{
	// Words.
	{s: "null", kind: 'z', size: 1},
	{s: "true", kind: 't', size: 1},
	{s: "false", kind: 'f', size: 1},
	// Texts: with nothing in it, with escapes, and such as look like other values, or like their kinds.
	{s: `""`, kind: 's', size: 1},
	{s: `" "`, kind: 's', text: " ", size: 1},
	{s: `"a"`, kind: 's', text: "a", size: 1},
	{s: `"null"`, kind: 's', text: "null", size: 1},
	{s: `"true"`, kind: 's', text: "true", size: 1},
	{s: `"12"`, kind: 's', text: "12", size: 1},
	{s: `"{"`, kind: 's', text: "{", size: 1},
	{s: `"[1,2]"`, kind: 's', text: "[1,2]", size: 1},
	{s: `"\u0000"`, kind: 's', text: "\x00", size: 1},
	{s: `"\"\\\/\b\f\n\r\t"`, kind: 's', text: "\"\\/\x08\x0c\x0a\x0d\x09", size: 1},
	{s: `"\u0041\u20ac\ud83d\ude00"`, kind: 's', text: "A\xe2\x82\xac\xf0\x9f\x98\x80", size: 1},
	{s: "\"\xc3\xa9\xf0\x9f\x98\x80\"", kind: 's', text: "\xc3\xa9\xf0\x9f\x98\x80", size: 1},
	// Whole numbers, in all their forms.
	{s: "0", kind: 'n', size: 1},
	{s: "-0", kind: 'n', size: 1},
	{s: "0.0", kind: 'n', size: 1},
	{s: "-0.00e5", kind: 'n', size: 1},
	{s: "0e99999999999999999999", kind: 'n', size: 1},
	{s: "0e-9", kind: 'n', size: 1},
	{s: "7", kind: 'n', whole: 7, size: 1},
	{s: "-12", kind: 'n', whole: -12, size: 1},
	{s: "1.0", kind: 'n', whole: 1, size: 1},
	{s: "10e-1", kind: 'n', whole: 1, size: 1},
	{s: "1.50e1", kind: 'n', whole: 15, size: 1},
	{s: "-1.5E+1", kind: 'n', whole: -15, size: 1},
	{s: "1e2", kind: 'n', whole: 100, size: 1},
	{s: "1E+002", kind: 'n', whole: 100, size: 1},
	{s: "-2500.00e-2", kind: 'n', whole: -25, size: 1},
	{s: "9007199254740993", kind: 'n', whole: 9007199254740993, size: 1},
	{s: "9223372036854775807", kind: 'n', whole: math.MaxInt, size: 1},
	{s: "9223372036854775807.0", kind: 'n', whole: math.MaxInt, size: 1},
	{s: "-9223372036854775808", kind: 'n', whole: math.MinInt, size: 1},
	{s: "-92233720368547758.08e2", kind: 'n', whole: math.MinInt, size: 1},
	// Numbers that are no whole ones, and such as are beyond all.
	{s: "0.5", kind: 'n', code: api.ErrKind, size: 1},
	{s: "-1.5", kind: 'n', code: api.ErrKind, size: 1},
	{s: "15e-1", kind: 'n', code: api.ErrKind, size: 1},
	{s: "1e-99999999999999999999", kind: 'n', code: api.ErrKind, size: 1},
	{s: "9223372036854775807.5", kind: 'n', code: api.ErrKind, size: 1},
	{s: "92233720368547758080000.5", kind: 'n', code: api.ErrKind, size: 1},
	{s: "9223372036854775808", kind: 'n', code: api.ErrRange, size: 1},
	{s: "-9223372036854775809", kind: 'n', code: api.ErrRange, size: 1},
	{s: "1e19", kind: 'n', code: api.ErrRange, size: 1},
	{s: "-1e99999999999999999999", kind: 'n', code: api.ErrRange, size: 1},
	// Objects: with nothing in them, with one member and with many, also under keys that the tests ask for.
	{s: "{}", kind: '{', size: 1},
	{s: `{"":""}`, kind: '{', size: 2},
	{s: `{"k":1}`, kind: '{', size: 2},
	{s: `{"a":{"a":0},"k":[1,{"k":2}],"b":null,"z":"k"}`, kind: '{', size: 9},
	// Lists: with nothing in them, with one value and with many, and such whose values have kids of their own.
	{s: "[]", kind: '[', size: 1},
	{s: "[null]", kind: '[', kids: []int{1}, size: 2},
	{s: `["k"]`, kind: '[', kids: []int{1}, size: 2},
	{s: "[1,2]", kind: '[', kids: []int{1, 2}, size: 3},
	{s: "[[]]", kind: '[', kids: []int{1}, size: 2},
	{s: `[{"k":1}]`, kind: '[', kids: []int{1}, size: 3},
	{s: `[0,true,"a",null,[],{}]`, kind: '[', kids: []int{1, 2, 3, 4, 5, 6}, size: 7},
	{s: `[[1,[2]],{"k":[3],"b":{"k":4}},5,[[]],6]`, kind: '[', kids: []int{1, 5, 10, 11, 13}, size: 14},
}

// key is a member's key in JSON, with the bytes for which it stands.
type key struct{ s, text string }

// keys are told apart byte by byte: each one is another one, also where it is a front or an end of it, or looks like it.
var keys = []key{
	{`""`, ""},
	{`" "`, " "},
	{`"k"`, "k"},
	{`"K"`, "K"},
	{`"k "`, "k "},
	{`" k"`, " k"},
	{`"ke"`, "ke"},
	{`"kek"`, "kek"},
	{`"kk"`, "kk"},
	{`"ek"`, "ek"},
	{`"null"`, "null"},
	{`"0"`, "0"},
	{`"-1"`, "-1"},
	{`"{"`, "{"},
	{`"["`, "["},
	{`"\""`, `"`},
	{`"\\"`, `\`},
	{`"\\n"`, `\n`},
	{`"\n"`, "\n"},
	{`"\u0000"`, "\x00"},
	{`"k\u0000"`, "k\x00"},
	{`"\u0062"`, "b"},
	{`"\/"`, "/"},
	{`"\u20ac"`, "\xe2\x82\xac"},
	{`"\ud83d\ude00"`, "\xf0\x9f\x98\x80"},
	{"\"e\xcc\x81\"", "e\xcc\x81"},
	{"\"\xc3\xa9\"", "\xc3\xa9"},
}

// none are keys that no member has: such as are fronts of those above, or hold them as they are written, and right bytes of
// none.
var none = []string{"x", "k\x00\x00", "nul", "nulll", "kekk", `"k"`, `""`, "\\u0062", `\"`, "\xe2", "\xe2\x82", "\xff", "\xf0\x9f\x98", "-", "1", "e", "k\n", "N", strings.Repeat("k", 5000)}

// outside are places where no tree of so many nodes has one.
func outside(many int) []int {
	return []int{-1, -2, -many, -many - 1, many, many + 1, 2*many + 1, math.MinInt, math.MinInt + 1, math.MinInt32, math.MaxInt32, math.MaxInt - 1, math.MaxInt}
}

// told is what all six calls tell of a member.
type told struct {
	Find   int
	Text   jpick.Found[string]
	Whole  jpick.Found[int]
	Flag   jpick.Found[bool]
	Object jpick.Found[int]
	List   jpick.Found[[]int]
}

// absent is what they tell where there is no such member.
var absent = told{Find: -1}

// meant is what they tell of a value at a place.
func meant(v value, place int) told {
	all := told{Find: place}
	if v.kind == 'z' {
		return all
	}
	const other = api.ErrKind
	all.Text.Code, all.Whole.Code, all.Flag.Code, all.Object.Code, all.List.Code = other, other, other, other, other
	switch v.kind {
	case 's':
		all.Text = jpick.Found[string]{Value: v.text, Is: true}
	case 'n':
		all.Whole = jpick.Found[int]{Value: v.whole, Is: v.code == api.OK, Code: v.code}
	case 't', 'f':
		all.Flag = jpick.Found[bool]{Value: v.kind == 't', Is: true}
	case '{':
		all.Object = jpick.Found[int]{Value: place, Is: true}
	case '[':
		all.List = jpick.Found[[]int]{Is: true}
		for _, kid := range v.kids {
			all.List.Value = append(all.List.Value, place+kid)
		}
	}
	return all
}

// asked is what they tell of l.
func asked(l []jtree.Node, at int, key string) told {
	all := told{
		Find:   jpick.Find(l, at, key),
		Text:   jpick.Text(l, at, key),
		Whole:  jpick.Whole(l, at, key),
		Flag:   jpick.Flag(l, at, key),
		Object: jpick.Object(l, at, key),
		List:   jpick.List(l, at, key),
	}
	if len(all.List.Value) == 0 {
		all.List.Value = nil // a list that is nil, and one without elements, are the same
	}
	return all
}

// short tells a text by its beginning and its end, if it is long.
func short(s string) string {
	if len(s) > 200 {
		return fmt.Sprintf("%.100s .. %s (%d bytes)", s, s[len(s)-40:], len(s))
	}
	return s
}

// read tells the tree of s, which is one.
func read(t *testing.T, s string) []jtree.Node {
	t.Helper()
	l, code := jtree.Read(s)
	if code != api.OK {
		t.Fatalf("%s is no tree: %d", short(s), code)
	}
	return l
}

// wantTold asks for a member.
func wantTold(t *testing.T, l []jtree.Node, at int, key string, want told) {
	t.Helper()
	if got := asked(l, at, key); !reflect.DeepEqual(got, want) {
		t.Errorf("%s at %d of %s: %s, want %s", short(strconv.Quote(key)), at, short(string(jtree.Put(nil, l))), short(fmt.Sprintf("%+v", got)), short(fmt.Sprintf("%+v", want)))
	}
}

// The chapter's example.
func TestExample(t *testing.T) {
	l := read(t, `{"a":1.0,"b":null}`)
	if got, want := jpick.Whole(l, 0, "a"), (jpick.Found[int]{Value: 1, Is: true}); got != want {
		t.Errorf("a as a whole number: %+v", got)
	}
	if got, want := jpick.Whole(l, 0, "b"), (jpick.Found[int]{}); got != want {
		t.Errorf("b as a whole number: %+v", got)
	}
	if got, want := jpick.Text(l, 0, "a"), (jpick.Found[string]{Code: api.ErrKind}); got != want {
		t.Errorf("a as a text: %+v", got)
	}
	if got := jpick.Find(l, 0, "b"); got != 2 {
		t.Errorf("b is at %d", got)
	}
}

// 14.1: places written out: the first member, the last one, one between, the only one; behind values with nodes of their
// own; in objects within others and within lists.
func TestFindWritten(t *testing.T) {
	for _, one := range []struct {
		s    string
		at   int
		key  string
		want int
	}{
		{"{}", 0, "a", -1},
		{"{}", 0, "", -1},
		{`{"a":1}`, 0, "a", 1},
		{`{"a":1}`, 0, "b", -1},
		{`{"a":1}`, 0, "", -1},
		{`{"a":1}`, 1, "a", -1},
		{`{"":1}`, 0, "", 1},
		{`{"":1}`, 0, "a", -1},
		{`{"":1}`, 1, "", -1},
		{`{"a":1,"b":2,"c":3}`, 0, "a", 1},
		{`{"a":1,"b":2,"c":3}`, 0, "b", 2},
		{`{"a":1,"b":2,"c":3}`, 0, "c", 3},
		{`{"a":1,"b":2,"c":3}`, 0, "d", -1},
		{`{"c":1,"a":2,"b":3}`, 0, "a", 2},
		{`{"a":null}`, 0, "a", 1},
		{`{"a":"b","c":"d"}`, 0, "b", -1},
		{`{"a":"b","c":"d"}`, 0, "d", -1},
		// Members of a value are none of the object's, ahead of what is asked for, behind it and within it.
		{`{"x":{"a":1},"a":2}`, 0, "a", 3},
		{`{"x":{"a":1},"a":2}`, 1, "a", 2},
		{`{"a":{"a":1}}`, 0, "a", 1},
		{`{"a":{"a":1}}`, 1, "a", 2},
		{`{"a":{"a":1}}`, 2, "a", -1},
		{`{"a":1,"x":{"a":2}}`, 0, "a", 1},
		{`{"a":1,"x":{"a":2}}`, 2, "a", 3},
		{`{"x":{"a":1}}`, 0, "a", -1},
		{`{"x":[{"a":1},{"a":2}]}`, 0, "a", -1},
		{`{"x":[{"a":1},{"a":2}]}`, 1, "a", -1},
		{`{"x":[{"a":1},{"a":2}]}`, 2, "a", 3},
		{`{"x":[{"a":1},{"a":2}]}`, 4, "a", 5},
		{`{"x":[1,[2,3]],"y":{"z":[]},"a":[4]}`, 0, "a", 8},
		{`{"x":[1,[2,3]],"y":{"z":[]},"a":[4]}`, 0, "y", 6},
		{`{"x":[1,[2,3]],"y":{"z":[]},"a":[4]}`, 6, "z", 7},
		{`{"x":{},"y":[],"a":0}`, 0, "a", 3},
		{`{"x":{},"y":[],"a":0}`, 1, "a", -1},
		// What stands behind an object is no member of it, nor what stands ahead of it.
		{`{"x":{"b":1},"a":2}`, 1, "b", 2},
		{`{"x":{},"a":2}`, 1, "x", -1},
		{`[{},{"a":1}]`, 1, "a", -1},
		{`[{},{"a":1}]`, 2, "a", 3},
		{`[{"a":1},{"b":2}]`, 1, "b", -1},
		{`[{"a":1},{"b":2}]`, 3, "a", -1},
		// The values of a list are no members, though their keys are empty.
		{"[1]", 0, "", -1},
		{"[]", 0, "", -1},
		{`[{"":1}]`, 0, "", -1},
		{`[{"":1}]`, 1, "", 2},
		{`{"a":[1,2]}`, 1, "", -1},
		{`{"a":[1,2],"":3}`, 0, "", 4},
		{`{"a":[1,2]}`, 0, "", -1},
		// Nodes that are none of both.
		{"1", 0, "", -1},
		{"1", 0, "1", -1},
		{`"a"`, 0, "a", -1},
		{`"{"`, 0, "", -1},
		{"null", 0, "", -1},
		{"true", 0, "t", -1},
		// Keys that are fronts of others, and such as were written with escapes.
		{`{"aa":1,"a":2}`, 0, "a", 2},
		{`{"aa":1}`, 0, "a", -1},
		{`{"a":1}`, 0, "aa", -1},
		{`{"\u0061":1}`, 0, "a", 1},
		{`{"\u0061":1}`, 0, `\u0061`, -1},
		{`{"\\u0061":1,"a":2}`, 0, `\u0061`, 1},
		{`{"A":1,"a":2}`, 0, "a", 2},
	} {
		if got := jpick.Find(read(t, one.s), one.at, one.key); got != one.want {
			t.Errorf("%q at %d of %s: %d, want %d", one.key, one.at, one.s, got, one.want)
		}
	}
}

// 14.1: each key alone, and each two and three of them: each at its place, and no other one.
func TestFindKeys(t *testing.T) {
	wantPlaces := func(members []key) {
		t.Helper()
		var parts []string
		place := map[string]int{}
		for i, k := range members {
			parts, place[k.text] = append(parts, k.s+":"+strconv.Itoa(i)), 1+i
		}
		l := read(t, "{"+strings.Join(parts, ",")+"}")
		for _, k := range keys {
			want := -1
			if at, is := place[k.text]; is {
				want = at
			}
			if got := jpick.Find(l, 0, k.text); got != want {
				t.Errorf("%q of %q: %d, want %d", k.text, members, got, want)
			}
		}
		for _, k := range none {
			if got := jpick.Find(l, 0, k); got != -1 {
				t.Errorf("%q of %q: %d", k, members, got)
			}
		}
	}
	wantPlaces(keys)
	for i, one := range keys {
		wantPlaces([]key{one})
		for j, other := range keys {
			if i == j {
				continue
			}
			wantPlaces([]key{one, other})
			for h := range 5 {
				if third := keys[h]; h != i && h != j {
					wantPlaces([]key{one, other, third})
				}
			}
		}
	}
}

// 14.1, 14.2: each value in an object: as its only member, its first one, its last one, and one between others that have the
// key within them, ahead of it and behind it; under each key, by each call. Of other keys nothing is found.
func TestEachValue(t *testing.T) {
	for _, v := range values {
		for i, k := range keys {
			o := keys[(i+1)%len(keys)]
			m := k.s + ":" + v.s
			for _, one := range []struct {
				s         string
				at, place int
			}{
				{"{" + m + "}", 0, 1},
				{" { " + k.s + " : " + v.s + " } ", 0, 1},
				{"{" + m + "," + o.s + ":0}", 0, 1},
				{"{" + o.s + ":0," + m + "}", 0, 2},
				{"{" + m + "," + o.s + ":{" + k.s + ":[]}}", 0, 1},
				{"{" + o.s + ":{" + k.s + ":[]}," + m + "}", 0, 3},
				{`{"x":[` + k.s + ",{" + k.s + ":1}]," + m + `,"y":{"x":{` + k.s + ":2}}}", 0, 5},
				{"[" + k.s + ",{" + k.s + ":true},{" + m + "}," + v.s + "]", 4, 5},
				{"{" + k.s + ":{" + m + "}}", 1, 2},
				{"{" + k.s + ":{" + k.s + ":{" + m + "}," + o.s + ":false}}", 2, 3},
			} {
				l := read(t, one.s)
				wantTold(t, l, one.at, k.text, meant(v, one.place))
				wantTold(t, l, one.at, "w", absent)
			}
			for _, other := range none {
				wantTold(t, read(t, "{"+m+"}"), 0, other, absent)
			}
		}
	}
}

// 14.2: each member beside each other one: what is told of one does not hang on the other.
func TestEachTwo(t *testing.T) {
	for _, one := range values {
		for _, other := range values {
			l := read(t, `{"k":`+one.s+`,"ke":`+other.s+"}")
			wantTold(t, l, 0, "k", meant(one, 1))
			wantTold(t, l, 0, "ke", meant(other, 1+one.size))
			wantTold(t, l, 0, "kek", absent)
			if t.Failed() {
				return
			}
		}
	}
}

// 14.1, 14.2: at each place where there is no object, whatever the key: not found, and OK. So it is below 0, at the last place
// and behind it, and of no nodes.
func TestNoObject(t *testing.T) {
	for _, l := range [][]jtree.Node{nil, {}, make([]jtree.Node, 0, 5), read(t, `{"k":{"k":1},"":[2]}`)[:0]} {
		for _, at := range append(outside(0), 0) {
			for _, k := range []string{"", "k", "x"} {
				wantTold(t, l, at, k, absent)
			}
		}
	}
	if l, code := jtree.Read(`{"k":1,"k":2}`); code != api.OK {
		wantTold(t, l, 0, "k", absent)
	}
	for _, v := range values {
		for _, s := range []string{v.s, "[" + v.s + "]", `{"k":` + v.s + "}", `[{"":` + v.s + `,"k":` + v.s + "}]", `{"k":1,"":[` + v.s + "," + v.s + "]}"} {
			l := read(t, s)
			for at, n := range l {
				if n.Kind == '{' {
					continue
				}
				for _, k := range append([]string{"", "k", "b", "a", n.Key, n.Text, string(rune(n.Kind))}, none...) {
					wantTold(t, l, at, k, absent)
				}
			}
			for _, at := range outside(len(l)) {
				if at >= 0 && at < len(l) {
					continue
				}
				for _, k := range []string{"", "k", "b", "x"} {
					wantTold(t, l, at, k, absent)
				}
			}
		}
	}
}

// 14.2: a member that is null is not found, as one that is not there, and what is found is told from that by Is, even where
// it is the empty text, 0, false, or an empty list.
func TestFoundOfNothing(t *testing.T) {
	l := read(t, `{"s":"","n":-0,"f":false,"l":[],"o":{},"z":null}`)
	if got, want := jpick.Text(l, 0, "s"), (jpick.Found[string]{Is: true}); got != want {
		t.Errorf("the empty text: %+v", got)
	}
	if got, want := jpick.Whole(l, 0, "n"), (jpick.Found[int]{Is: true}); got != want {
		t.Errorf("0: %+v", got)
	}
	if got, want := jpick.Flag(l, 0, "f"), (jpick.Found[bool]{Is: true}); got != want {
		t.Errorf("false: %+v", got)
	}
	if got := jpick.List(l, 0, "l"); len(got.Value) != 0 || !got.Is || got.Code != api.OK {
		t.Errorf("an empty list: %+v", got)
	}
	if got, want := jpick.Object(l, 0, "o"), (jpick.Found[int]{Value: 5, Is: true}); got != want {
		t.Errorf("an empty object: %+v", got)
	}
	wantTold(t, l, 0, "z", told{Find: 6})
	wantTold(t, l, 0, "y", absent)
	wantTold(t, l, 5, "z", absent)
}

// 14.2: beside an error there is nothing else: not even of a number that is no whole one, or beyond all.
func TestWrong(t *testing.T) {
	l := read(t, `{"o":{"k":1},"t":"a","n":7,"f":true,"l":[1],"h":1.5,"g":9223372036854775808}`)
	for _, one := range []struct {
		key  string
		code api.Code
	}{{"o", api.ErrKind}, {"t", api.ErrKind}, {"f", api.ErrKind}, {"l", api.ErrKind}, {"h", api.ErrKind}, {"g", api.ErrRange}} {
		if got, want := jpick.Whole(l, 0, one.key), (jpick.Found[int]{Code: one.code}); got != want {
			t.Errorf("%s as a whole number: %+v", one.key, got)
		}
	}
	for _, k := range []string{"o", "n", "f", "l", "h", "g"} {
		if got, want := jpick.Text(l, 0, k), (jpick.Found[string]{Code: api.ErrKind}); got != want {
			t.Errorf("%s as a text: %+v", k, got)
		}
	}
	for _, k := range []string{"o", "t", "n", "l", "h", "g"} {
		if got, want := jpick.Flag(l, 0, k), (jpick.Found[bool]{Code: api.ErrKind}); got != want {
			t.Errorf("%s as true or false: %+v", k, got)
		}
	}
	for _, k := range []string{"t", "n", "f", "l", "h", "g"} {
		if got, want := jpick.Object(l, 0, k), (jpick.Found[int]{Code: api.ErrKind}); got != want {
			t.Errorf("%s as an object: %+v", k, got)
		}
	}
	for _, k := range []string{"o", "t", "n", "f", "h", "g"} {
		if got := jpick.List(l, 0, k); got.Value != nil || got.Is || got.Code != api.ErrKind {
			t.Errorf("%s as a list: %+v", k, got)
		}
	}
}

// worth tells what a number's text is worth, as the library's fractions have it, and what is wrong with it as a whole number.
func worth(s string) (int, api.Code) {
	n, _ := new(big.Rat).SetString(s)
	switch {
	case !n.IsInt():
		return 0, api.ErrKind
	case !n.Num().IsInt64():
		return 0, api.ErrRange
	}
	return int(n.Num().Int64()), api.OK
}

// 14.2: numbers by chance, near the bounds, too: what jnum's Whole tells of them, which is what they are worth.
func TestWholeOfChance(t *testing.T) {
	r := rand.New(rand.NewSource(14))
	digits := func(many int) string {
		b := make([]byte, many)
		for i := range b {
			b[i] = "0000123456789"[r.Intn(13)]
		}
		return string(b)
	}
	for range 20000 {
		s := []string{"", "-"}[r.Intn(2)]
		switch r.Intn(4) {
		case 0:
			s += "0"
		case 1:
			s += "92233720368547758" + []string{"06", "07", "08", "09", "10"}[r.Intn(5)]
		default:
			s += strconv.Itoa(1+r.Intn(9)) + digits(r.Intn(20))
		}
		if r.Intn(2) == 0 {
			s += "." + digits(1+r.Intn(4))
		}
		if r.Intn(2) == 0 {
			s += []string{"e", "E"}[r.Intn(2)] + []string{"", "+", "-"}[r.Intn(3)] + strconv.Itoa(r.Intn(25))
		}
		whole, code := worth(s)
		if n, c := jnum.Whole(s); n != whole || c != code {
			t.Fatalf("%s: %d, %d; jnum: %d, %d", s, whole, code, n, c)
		}
		v := value{s: s, kind: 'n', whole: whole, code: code, size: 1}
		l := read(t, `[{"k":[],"ke":`+s+"}]")
		if wantTold(t, l, 1, "ke", meant(v, 3)); t.Failed() {
			return
		}
	}
}

// 14.2: the place of an object can be asked again, and so on, down to the deepest one; so can those of a list's values.
func TestAskAgain(t *testing.T) {
	l := read(t, strings.Repeat(`{"k":`, api.MaxDeep)+`"end"`+strings.Repeat("}", api.MaxDeep))
	at := 0
	for deep := 1; deep < api.MaxDeep; deep++ {
		next := jpick.Object(l, at, "k")
		if next != (jpick.Found[int]{Value: deep, Is: true}) {
			t.Fatalf("object %d: %+v", deep, next)
		}
		at = next.Value
	}
	wantTold(t, l, at, "k", meant(value{kind: 's', text: "end"}, api.MaxDeep))
	wantTold(t, l, api.MaxDeep, "k", absent)

	l = read(t, `{"spans":[{"id":"a","tags":{"x":"1"}},{"tags":{"x":"2"},"id":"b"},{"id":null},7,{"id":3}],"id":"c"}`)
	var ids []jpick.Found[string]
	var tags []jpick.Found[string]
	for _, place := range jpick.List(l, 0, "spans").Value {
		ids = append(ids, jpick.Text(l, place, "id"))
		if o := jpick.Object(l, place, "tags"); o.Is {
			tags = append(tags, jpick.Text(l, o.Value, "x"))
		}
	}
	if want := []jpick.Found[string]{{Value: "a", Is: true}, {Value: "b", Is: true}, {}, {}, {Code: api.ErrKind}}; !slices.Equal(ids, want) {
		t.Errorf("ids: %+v", ids)
	}
	if want := []jpick.Found[string]{{Value: "1", Is: true}, {Value: "2", Is: true}}; !slices.Equal(tags, want) {
		t.Errorf("tags: %+v", tags)
	}
	if got := jpick.Text(l, 0, "id"); got != (jpick.Found[string]{Value: "c", Is: true}) {
		t.Errorf("id: %+v", got)
	}
}

// 14.1, 14.2: of objects and lists of few and of many.
func TestMany(t *testing.T) {
	for _, many := range []int{1, 2, 3, 31, 32, 33, 255, 256, 257, 3000} {
		var members, list []string
		kids := value{kind: '['}
		for i := range many {
			members, list = append(members, `"k`+strconv.Itoa(i)+`":{"k0":[`+strconv.Itoa(i)+"]}"), append(list, `[{"k":1},2]`)
			kids.kids = append(kids.kids, 1+4*i)
		}
		l := read(t, "{"+strings.Join(members, ",")+`,"l":[`+strings.Join(list, ",")+"]}")
		for _, i := range []int{0, 1, many / 2, many - 2, many - 1} {
			if i < 0 || i >= many {
				continue
			}
			wantTold(t, l, 0, "k"+strconv.Itoa(i), meant(value{kind: '{'}, 1+3*i))
			wantTold(t, l, 1+3*i, "k0", meant(value{kind: '[', kids: []int{1}}, 2+3*i))
		}
		wantTold(t, l, 0, "l", meant(kids, 1+3*many))
		wantTold(t, l, 0, "k"+strconv.Itoa(many), absent)
		wantTold(t, l, 0, "k", absent)
	}
}

// 14.1, 14.2: long keys and texts, that differ at their ends alone.
func TestLong(t *testing.T) {
	run := strings.Repeat("k", 100000)
	l := read(t, `{"`+run+`e":"`+run+`","`+run+`":"`+run+`k"}`)
	wantTold(t, l, 0, run, meant(value{kind: 's', text: run + "k"}, 2))
	wantTold(t, l, 0, run+"e", meant(value{kind: 's', text: run}, 1))
	wantTold(t, l, 0, run+"k", absent)
	wantTold(t, l, 0, run[1:], absent)
	number := strings.Repeat("0", 100000)
	l = read(t, `{"k":1.`+number+`,"ke":1`+number+`,"kek":1`+number+"e-99999}")
	wantTold(t, l, 0, "k", meant(value{kind: 'n', whole: 1}, 1))
	wantTold(t, l, 0, "ke", meant(value{kind: 'n', code: api.ErrRange}, 2))
	wantTold(t, l, 0, "kek", meant(value{kind: 'n', whole: 10}, 3))
}

// thing is a value that is made by chance, with its place, and the members that it has, if it is an object.
type thing struct {
	value
	place   int
	members map[string]*thing
}

// maker makes them, and keeps all of them by their places.
type maker struct {
	r   *rand.Rand
	all []*thing
}

// thing makes one that is no deeper than so much, and what is within it.
func (m *maker) thing(deep int) *thing {
	one := &thing{place: len(m.all)}
	m.all = append(m.all, one)
	kind := m.r.Intn(5)
	if deep == 0 {
		kind = 0
	}
	switch {
	case kind < 2:
		for one.size != 1 {
			one.value = values[m.r.Intn(len(values))]
		}
		return one
	case kind == 2:
		one.kind = '['
		var parts []string
		for range m.r.Intn(5) {
			kid := m.thing(deep - 1)
			parts, one.kids = append(parts, kid.s), append(one.kids, kid.place-one.place)
		}
		one.s = "[" + strings.Join(parts, " , ") + "]"
	default:
		one.kind, one.members = '{', map[string]*thing{}
		var parts []string
		for _, i := range m.r.Perm(len(keys))[:m.r.Intn(6)] {
			kid := m.thing(deep - 1)
			parts, one.members[keys[i].text] = append(parts, keys[i].s+": "+kid.s), kid
		}
		one.s = "{" + strings.Join(parts, ",") + "}"
	}
	return one
}

// P0, 14.1, 14.2: trees by chance, asked at each of their places, and outside, for each key.
func TestOfChance(t *testing.T) {
	r := rand.New(rand.NewSource(41))
	for range 2000 {
		m := &maker{r: r}
		s := m.thing(5).s
		l := read(t, s)
		if len(l) != len(m.all) {
			t.Fatalf("%s has %d nodes, not %d", s, len(l), len(m.all))
		}
		for at, one := range m.all {
			for _, k := range keys {
				want := absent
				if member := one.members[k.text]; member != nil {
					want = meant(member.value, member.place)
				}
				wantTold(t, l, at, k.text, want)
			}
			wantTold(t, l, at, none[r.Intn(len(none))], absent)
		}
		for _, at := range outside(len(l)) {
			if at < 0 || at >= len(l) {
				wantTold(t, l, at, keys[r.Intn(len(keys))].text, absent)
			}
		}
		if t.Failed() {
			return
		}
	}
}

// R3: the nodes stay as they are, what lies behind them in memory is neither looked at nor written to, and each list that is
// told is one of its own.
func TestApart(t *testing.T) {
	for _, v := range values {
		behind := []jtree.Node{{Kind: 'n', Key: "x", Text: "1", Size: 1}, {Kind: '{', Key: "x", Size: 2}, {Kind: 's', Key: "x", Text: "x", Size: 1}}
		whole := append(read(t, `{"k":`+v.s+"}"), behind...)
		was := slices.Clone(whole)
		l := whole[:len(whole)-len(behind)]
		first, second := asked(l, 0, "k"), asked(l, 0, "k")
		for _, at := range []int{0, 1, len(l), len(l) + 1, len(l) + 2} {
			wantTold(t, l, at, "x", absent)
		}
		if !slices.Equal(whole, was) {
			t.Errorf("%s: the nodes changed", v.s)
		}
		for i := range first.List.Value[:cap(first.List.Value)] {
			first.List.Value[:cap(first.List.Value)][i] = -7
		}
		for i := range whole {
			whole[i] = jtree.Node{Kind: 'X', Key: "X", Text: "X", Size: 1}
		}
		if want := meant(v, 1); !reflect.DeepEqual(second, want) {
			t.Errorf("%s: what was told changed: %+v, want %+v", v.s, second, want)
		}
	}
}

// 14.2: what is found is of any type, and those of two types are two types.
func TestFoundOfAny(t *testing.T) {
	if one := (jpick.Found[func() string]{Value: func() string { return "called" }, Is: true}); one.Value() != "called" {
		t.Error("a function is not what was found")
	}
	one := jpick.Found[jpick.Found[[2]uint8]]{Value: jpick.Found[[2]uint8]{Value: [2]uint8{1, 2}, Is: true}, Code: api.ErrNone}
	if one.Value.Value != [2]uint8{1, 2} || !one.Value.Is || one.Value.Code != api.OK || one.Is || one.Code != api.ErrNone {
		t.Errorf("%+v", one)
	}
	var text any = jpick.Found[string]{}
	if _, is := text.(jpick.Found[int]); is {
		t.Error("a text that is found is a number")
	}
}
