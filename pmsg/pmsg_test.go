package pmsg_test

import (
	"encoding/binary"
	"math"
	"math/rand"
	"slices"
	"strings"
	"testing"

	"truchman/api"
	"truchman/pmsg"
	"truchman/pread"
	"truchman/ptag"
)

// most is the greatest number of a field.
const most = 536870911

// short tells a number's bytes by the library.
func short(u uint64) string {
	return string(binary.AppendUvarint(nil, u))
}

// longer tells the bytes of a number with bits that are 0 alone at their end, count bytes in all.
func longer(s string, count int) string {
	if count == len(s) {
		return s
	}
	last := len(s) - 1
	return s[:last] + string([]byte{s[last] + 128}) + strings.Repeat("\x80", count-len(s)-1) + "\x00"
}

// tagOf tells the bytes of a field's tag by the library.
func tagOf(f pread.Field) string {
	return short(uint64(f.Number)*8 + uint64(f.Wire))
}

// behindTag tells the bytes that stand behind a field's tag, by the library.
func behindTag(f pread.Field) string {
	switch f.Wire {
	case 0:
		return short(f.Num)
	case 1:
		return string(binary.LittleEndian.AppendUint64(nil, f.Num))
	case 5:
		return string(binary.LittleEndian.AppendUint32(nil, uint32(f.Num)))
	}
	return short(uint64(len(f.Text))) + f.Text
}

// bytesOf tells the bytes of fields, one behind the other.
func bytesOf(list ...pread.Field) string {
	var s strings.Builder
	for _, f := range list {
		s.WriteString(tagOf(f) + behindTag(f))
	}
	return s.String()
}

// num, text make a field with a number, or with bytes.
func num(number, wire int, u uint64) pread.Field {
	return pread.Field{Number: number, Wire: wire, Num: u}
}

func text(number int, s string) pread.Field {
	return pread.Field{Number: number, Wire: 2, Text: s}
}

// saidOf tells the fields under each tag, in order, and where the last one of these stands; what the tests hold the
// program against is asked of it.
func saidOf(list []pread.Field) (map[ptag.Tag][]pread.Field, map[ptag.Tag]int) {
	said, last := map[ptag.Tag][]pread.Field{}, map[ptag.Tag]int{}
	for at, f := range list {
		tag := ptag.Tag{Number: f.Number, Wire: f.Wire}
		said[tag] = append(said[tag], f)
		last[tag] = at
	}
	return said, last
}

// numbers are those of fields that are asked for: of the tests' fields, of none, and such as are told from these in
// their lowest 3, 29, 32 or 61 bits, or by their sign alone.
var numbers = []int{0, 1, 2, 3, 4, 9, 16, most, -1, -2, -8, -most, most + 1, most + 2, 1<<32 + 1, 1<<32 + 2, 1<<61 + 1, 1<<61 + 2, math.MaxInt64, math.MinInt64, math.MinInt64 + 1}

// wires are the wire types, and others.
var wires = []int{0, 1, 2, 3, 4, 5, 6, 7, 8, 9, 10, 13, -1, -2, -3, -6, -8, 1 << 32, 1<<32 + 2, 1<<32 + 5, math.MaxInt64, math.MinInt64, math.MinInt64 + 2, math.MinInt64 + 5}

// lists are the tags that Last and Rest are asked of: none, one, several, in several orders, some given twice, and
// some that may be none.
var lists = [][]ptag.Tag{
	nil, {},
	{{Number: 1, Wire: 0}}, {{Number: 1, Wire: 1}}, {{Number: 1, Wire: 2}}, {{Number: 1, Wire: 5}}, {{Number: 2, Wire: 0}}, {{Number: 2, Wire: 2}}, {{Number: most, Wire: 2}},
	{{Number: 1, Wire: 0}, {Number: 1, Wire: 2}}, {{Number: 1, Wire: 2}, {Number: 1, Wire: 0}},
	{{Number: 1, Wire: 0}, {Number: 1, Wire: 0}}, {{Number: 1, Wire: 2}, {Number: 1, Wire: 2}, {Number: 1, Wire: 2}},
	{{Number: 1, Wire: 2}, {Number: 2, Wire: 2}, {Number: 1, Wire: 2}}, {{Number: 2, Wire: 2}, {Number: 1, Wire: 2}, {Number: 2, Wire: 2}},
	{{Number: 1, Wire: 0}, {Number: 1, Wire: 1}, {Number: 1, Wire: 2}, {Number: 1, Wire: 5}}, {{Number: 1, Wire: 5}, {Number: 1, Wire: 2}, {Number: 1, Wire: 1}, {Number: 1, Wire: 0}},
	{{Number: 2, Wire: 0}, {Number: 1, Wire: 5}, {Number: 1, Wire: 1}}, {{Number: 1, Wire: 1}, {Number: 2, Wire: 0}, {Number: 1, Wire: 5}},
	{{Number: 3, Wire: 0}, {Number: 3, Wire: 2}, {Number: 4, Wire: 1}}, {{Number: 9, Wire: 5}, {Number: 16, Wire: 2}, {Number: 2, Wire: 2}, {Number: most, Wire: 0}},
	{{Number: 77, Wire: 2}}, {{Number: 77, Wire: 2}, {Number: 78, Wire: 0}, {Number: 77, Wire: 2}}, {{Number: 77, Wire: 2}, {Number: 1, Wire: 2}}, {{Number: 1, Wire: 2}, {Number: 77, Wire: 2}},
	{{}}, {{Number: 1, Wire: 3}}, {{Number: 1, Wire: 4}}, {{Number: 1, Wire: 6}}, {{Number: 1, Wire: 8}}, {{Number: 1, Wire: -1}}, {{Number: 0, Wire: 8}}, {{Number: 0, Wire: 10}}, {{Number: -1, Wire: 16}}, {{Number: 2, Wire: -8}},
	{{Number: 0, Wire: 2}}, {{Number: -1, Wire: 2}}, {{Number: most + 1, Wire: 2}}, {{Number: 1<<32 + 1, Wire: 2}}, {{Number: 1<<61 + 1, Wire: 2}}, {{Number: 1, Wire: 1<<32 + 2}}, {{Number: math.MinInt64, Wire: math.MaxInt64}}, {{Number: math.MinInt64 + 1, Wire: 0}},
	{{}, {Number: 1, Wire: 2}}, {{Number: 1, Wire: 2}, {}}, {{Number: 1, Wire: 3}, {Number: 1, Wire: 0}, {Number: 0, Wire: 0}, {Number: -2, Wire: 2}, {Number: 1, Wire: 0}, {Number: 1<<61 + 1, Wire: 2}},
}

// wantSaid asks a message all that it may be asked, and holds the answers against what the fields of a list say.
func wantSaid(t *testing.T, m *pmsg.Message, list []pread.Field) {
	t.Helper()
	said, last := saidOf(list)
	for _, number := range numbers {
		for _, wire := range wires {
			wantNum(t, m, list, said, number, wire)
		}
		wantTexts(t, m, list, said, number)
	}
	for _, tags := range lists {
		wantTags(t, m, list, said, last, tags)
	}
}

// wantNum asks for Num of a number and a wire type.
func wantNum(t *testing.T, m *pmsg.Message, list []pread.Field, said map[ptag.Tag][]pread.Field, number, wire int) {
	t.Helper()
	var want uint64
	these := said[ptag.Tag{Number: number, Wire: wire}]
	is := len(these) > 0 && wire != 2
	if is {
		want = these[len(these)-1].Num
	}
	if got, was := m.Num(number, wire); got != want || was != is {
		t.Fatalf("%.200v: Num(%d, %d) is %d, %t; want %d, %t", list, number, wire, got, was, want, is)
	}
}

// wantTexts asks for Text, Joined and Each of a number.
func wantTexts(t *testing.T, m *pmsg.Message, list []pread.Field, said map[ptag.Tag][]pread.Field, number int) {
	t.Helper()
	var each []string
	var text, joined string
	for _, f := range said[ptag.Tag{Number: number, Wire: 2}] {
		each = append(each, f.Text)
		text = f.Text
	}
	for at := len(each) - 1; at >= 0; at-- {
		joined = each[at] + joined
	}
	is := each != nil
	if got, was := m.Text(number); got != text || was != is {
		t.Fatalf("%.200v: Text(%d) is %.100q, %t; want %.100q, %t", list, number, got, was, text, is)
	}
	if got, was := m.Joined(number); got != joined || was != is {
		t.Fatalf("%.200v: Joined(%d) is %.100q, %t; want %.100q, %t", list, number, got, was, joined, is)
	}
	if got := m.Each(number); !slices.Equal(got, each) {
		t.Fatalf("%.200v: Each(%d) is %.100q, want %.100q", list, number, got, each)
	}
}

// wantTags asks for Last and Rest of tags.
func wantTags(t *testing.T, m *pmsg.Message, list []pread.Field, said map[ptag.Tag][]pread.Field, last map[ptag.Tag]int, tags []ptag.Tag) {
	t.Helper()
	var want pread.Field
	at, rest := -1, len(list)
	counted := map[ptag.Tag]bool{}
	for _, tag := range tags {
		if place, is := last[tag]; is && place > at {
			at, want = place, list[place]
		}
		if !counted[tag] {
			counted[tag] = true
			rest -= len(said[tag])
		}
	}
	if got, is := m.Last(tags...); got != want || is != (at >= 0) {
		t.Fatalf("%.200v: Last(%v) is %.100v, %t; want %.100v, %t", list, tags, got, is, want, at >= 0)
	}
	if got := m.Rest(tags...); got != rest {
		t.Fatalf("%.200v: Rest(%v) is %d, want %d", list, tags, got, rest)
	}
}

// read reads a message, which s must be.
func read(t *testing.T, s string) *pmsg.Message {
	t.Helper()
	m, code := pmsg.Read(s)
	if m == nil || code != api.OK {
		t.Fatalf("Read(%.200q): %v, code %d", s, m, code)
	}
	return m
}

// wantRead reads the message of the fields of a list, and asks it all.
func wantRead(t *testing.T, list ...pread.Field) {
	t.Helper()
	wantSaid(t, read(t, bytesOf(list...)), list)
}

// wantFail reads of s what is no message.
func wantFail(t *testing.T, s string, want api.Code) {
	t.Helper()
	if m, code := pmsg.Read(s); m != nil || code != want {
		t.Fatalf("Read(%.200q): %v, code %d; want nil, code %d", s, m, code, want)
	}
}

// What the tests hold the program against is itself what is written out.
func TestMadeApart(t *testing.T) {
	got := bytesOf(num(1, 0, 150), num(16, 0, 0), num(3, 1, 0x0807060504030201), num(7, 5, 0x04030201), text(2, "ab"), text(most, ""))
	if want := "\x08\x96\x01\x80\x01\x00\x19\x01\x02\x03\x04\x05\x06\x07\x08\x3d\x01\x02\x03\x04\x12\x02ab\xfa\xff\xff\xff\x0f\x00"; got != want {
		t.Errorf("%q, want %q", got, want)
	}
	if s := longer("\x82\x01", 4); s != "\x82\x81\x80\x00" {
		t.Errorf("%q", s)
	}
}

// The chapter's examples.
func TestExamples(t *testing.T) {
	m := read(t, "\x08\x01\x08\x02")
	if u, is := m.Num(1, ptag.Varint); u != 2 || !is {
		t.Error(u, is)
	}
	m = read(t, "\x0a\x01a\x0a\x01b")
	if s, is := m.Joined(1); s != "ab" || !is {
		t.Error(s, is)
	}
	if s, is := m.Text(1); s != "b" || !is {
		t.Error(s, is)
	}
}

// 18.1 and 18.2: a message without fields, of no bytes, is one, and has nothing.
func TestReadOfNothing(t *testing.T) {
	m := read(t, "")
	wantSaid(t, m, nil)
	if n := m.Rest(); n != 0 {
		t.Error(n)
	}
}

// written are messages with what they say, written out.
var written = []struct {
	s      string
	number int
	nums   [3]uint64 // for Varint, Fixed64 and Fixed32
	is     [4]bool   // whether there are such fields, and whether there are any for Bytes
	text   string
	joined string
	each   []string
	rest   int
}{
	{"", 1, [3]uint64{}, [4]bool{}, "", "", nil, 0},
	{"\x08\x00", 1, [3]uint64{0, 0, 0}, [4]bool{true}, "", "", nil, 1},
	{"\x08\x00", 2, [3]uint64{}, [4]bool{}, "", "", nil, 1},
	{"\x08\x96\x01", 1, [3]uint64{150, 0, 0}, [4]bool{true}, "", "", nil, 1},
	{"\x08\x05\x08\x00", 1, [3]uint64{0, 0, 0}, [4]bool{true}, "", "", nil, 2},
	{"\x08\x00\x08\x05", 1, [3]uint64{5, 0, 0}, [4]bool{true}, "", "", nil, 2},
	{"\x08\x05\x10\x06", 1, [3]uint64{5, 0, 0}, [4]bool{true}, "", "", nil, 2},
	{"\x08\x05\x10\x06", 2, [3]uint64{6, 0, 0}, [4]bool{true}, "", "", nil, 2},
	{"\x08\xff\xff\xff\xff\xff\xff\xff\xff\xff\x01", 1, [3]uint64{math.MaxUint64, 0, 0}, [4]bool{true}, "", "", nil, 1},
	{"\x09\x01\x00\x00\x00\x00\x00\x00\x80", 1, [3]uint64{0, 1<<63 + 1, 0}, [4]bool{false, true}, "", "", nil, 1},
	{"\x09\x01\x02\x03\x04\x05\x06\x07\x08\x09\x00\x00\x00\x00\x00\x00\x00\x00", 1, [3]uint64{0, 0, 0}, [4]bool{false, true}, "", "", nil, 2},
	{"\x0d\xff\xff\xff\xff", 1, [3]uint64{0, 0, math.MaxUint32}, [4]bool{false, false, true}, "", "", nil, 1},
	{"\x0d\x01\x00\x00\x00\x0d\x02\x00\x00\x00", 1, [3]uint64{0, 0, 2}, [4]bool{false, false, true}, "", "", nil, 2},
	{"\x0d\x01\x00\x00\x00\x08\x03\x09\x02\x00\x00\x00\x00\x00\x00\x00\x0a\x01x", 1, [3]uint64{3, 2, 1}, [4]bool{true, true, true, true}, "x", "x", []string{"x"}, 4},
	{"\x0a\x00", 1, [3]uint64{}, [4]bool{false, false, false, true}, "", "", []string{""}, 1},
	{"\x0a\x01\xff", 1, [3]uint64{}, [4]bool{false, false, false, true}, "\xff", "\xff", []string{"\xff"}, 1},
	{"\x0a\x03abc\x0a\x00", 1, [3]uint64{}, [4]bool{false, false, false, true}, "", "abc", []string{"abc", ""}, 2},
	{"\x0a\x00\x0a\x03abc\x0a\x00\x0a\x02de", 1, [3]uint64{}, [4]bool{false, false, false, true}, "de", "abcde", []string{"", "abc", "", "de"}, 4},
	{"\x0a\x02\xe2\x82\x12\x01-\x08\x07\x0a\x01\xac", 1, [3]uint64{7, 0, 0}, [4]bool{true, false, false, true}, "\xac", "\xe2\x82\xac", []string{"\xe2\x82", "\xac"}, 4},
	{"\x0a\x02\xe2\x82\x12\x01-\x08\x07\x0a\x01\xac", 2, [3]uint64{}, [4]bool{false, false, false, true}, "-", "-", []string{"-"}, 4},
	{"\x0a\x02\xe2\x82\x12\x01-\x08\x07\x0a\x01\xac", 3, [3]uint64{}, [4]bool{}, "", "", nil, 4},
	{"\xf8\xff\xff\xff\x0f\x07\xfa\xff\xff\xff\x0f\x01y", most, [3]uint64{7, 0, 0}, [4]bool{true, false, false, true}, "y", "y", []string{"y"}, 2},
	{"\x88\x80\x00\x87\x80\x00\x8a\x00\x82\x00xy", 1, [3]uint64{7, 0, 0}, [4]bool{true, false, false, true}, "xy", "xy", []string{"xy"}, 2},
}

// 18.1 and 18.2: what messages say, written out.
func TestWritten(t *testing.T) {
	for _, one := range written {
		m := read(t, one.s)
		for i, wire := range []int{ptag.Varint, ptag.Fixed64, ptag.Fixed32} {
			if u, is := m.Num(one.number, wire); u != one.nums[i] || is != one.is[i] {
				t.Errorf("%q: Num(%d, %d) is %d, %t; want %d, %t", one.s, one.number, wire, u, is, one.nums[i], one.is[i])
			}
		}
		if u, is := m.Num(one.number, ptag.Bytes); u != 0 || is {
			t.Errorf("%q: Num of Bytes of %d is %d, %t", one.s, one.number, u, is)
		}
		if s, is := m.Text(one.number); s != one.text || is != one.is[3] {
			t.Errorf("%q: Text(%d) is %q, %t; want %q, %t", one.s, one.number, s, is, one.text, one.is[3])
		}
		if s, is := m.Joined(one.number); s != one.joined || is != one.is[3] {
			t.Errorf("%q: Joined(%d) is %q, %t; want %q, %t", one.s, one.number, s, is, one.joined, one.is[3])
		}
		if l := m.Each(one.number); !slices.Equal(l, one.each) {
			t.Errorf("%q: Each(%d) is %q, want %q", one.s, one.number, l, one.each)
		}
		if n := m.Rest(); n != one.rest {
			t.Errorf("%q: Rest() is %d, want %d", one.s, n, one.rest)
		}
	}
}

// wholes are numbers that fields have.
var wholes = []uint64{0, 1, 127, 128, 150, 1<<31 - 1, 1 << 31, math.MaxUint32, 1 << 32, 1<<63 - 1, 1 << 63, math.MaxUint64}

// strung are bytes that fields have, none, one and many, of characters and of others.
var strung = []string{"", "\x00", "a", "\xff", "\x80", "ab", "\x08\x01", "\x0a\x01a", "\xe2\x82\xac", "\xe2\x82", strings.Repeat("x", 127), strings.Repeat("\xfe", 128), strings.Repeat("\x0a", 16384)}

// 18.1 and 18.2: one field of each number, of each wire type, and several of the same tag, the last one 0 or empty, too.
func TestOneTag(t *testing.T) {
	for _, number := range []int{1, 2, 16, most} {
		for _, wire := range []int{0, 1, 5} {
			var list []pread.Field
			for _, u := range wholes {
				if wire == 5 {
					u %= 1 << 32
				}
				f := num(number, wire, u)
				list = append(list, f)
				wantRead(t, f)
				wantRead(t, f, num(number, wire, 9))
				wantRead(t, num(number, wire, 9), f)
				wantRead(t, num(number, wire, 9), f, num(number, wire, 0))
			}
			wantRead(t, list...)
			slices.Reverse(list)
			wantRead(t, list...)
		}
		var list []pread.Field
		for _, s := range strung {
			f := text(number, s)
			list = append(list, f)
			wantRead(t, f)
			wantRead(t, f, text(number, "z"))
			wantRead(t, text(number, "z"), f)
			wantRead(t, text(number, ""), f, text(number, "z"), text(number, ""))
		}
		wantRead(t, list...)
		slices.Reverse(list)
		wantRead(t, list...)
	}
}

// 18.1 to 18.3: each message of at most three of these fields: of one number with each wire type, of another one, and
// of the greatest one.
func TestFewFields(t *testing.T) {
	few := []pread.Field{num(1, 0, 0), num(1, 0, 7), num(1, 1, 8), num(1, 5, 0), num(1, 5, 9), text(1, ""), text(1, "a"), text(2, "b"), num(2, 0, 5), text(most, "c")}
	var each func(list []pread.Field, more int)
	each = func(list []pread.Field, more int) {
		wantRead(t, list...)
		if more == 0 {
			return
		}
		for _, f := range few {
			each(append(slices.Clone(list), f), more-1)
		}
	}
	each(nil, 3)
}

// fieldOfChance tells a field of the numbers that are asked for, and others.
func fieldOfChance(chance *rand.Rand) pread.Field {
	number := []int{1, 1, 1, 2, 2, 3, 4, 9, 16, 77, 78, most}[chance.Intn(12)]
	switch wire := []int{0, 1, 5, 2, 2}[chance.Intn(5)]; wire {
	case 2:
		s := make([]byte, chance.Intn(4)*chance.Intn(60))
		chance.Read(s)
		return text(number, string(s))
	case 5:
		return num(number, wire, uint64(chance.Uint32())>>chance.Intn(33))
	default:
		return num(number, wire, chance.Uint64()>>chance.Intn(65))
	}
}

// 18.1 to 18.3: messages by chance, the same ones each time, whose tags, numbers and sizes may have more bytes than they
// need.
func TestChance(t *testing.T) {
	chance := rand.New(rand.NewSource(18))
	more := func(s string) string {
		return longer(s, len(s)+chance.Intn(11-len(s)))
	}
	for range 3000 {
		var list []pread.Field
		var s string
		for range chance.Intn(12) {
			f := fieldOfChance(chance)
			list = append(list, f)
			s += more(tagOf(f))
			switch f.Wire {
			case 0:
				s += more(short(f.Num))
			case 2:
				s += more(short(uint64(len(f.Text)))) + f.Text
			default:
				s += behindTag(f)
			}
		}
		wantSaid(t, read(t, s), list)
	}
}

// 18.1 to 18.3: a message of very many fields.
func TestManyFields(t *testing.T) {
	var list []pread.Field
	for i := range 20000 {
		list = append(list, text(1, string([]byte{byte(i)})), num(1, 0, uint64(i)), text(2+i%3, "abc"[i%4%3:]))
	}
	wantRead(t, list...)
	m := read(t, bytesOf(list...))
	if s, is := m.Joined(1); len(s) != 20000 || !is || s[257] != 1 {
		t.Error(len(s), is)
	}
	if n := m.Rest(ptag.Tag{Number: 1, Wire: 0}, ptag.Tag{Number: 1, Wire: 2}); n != 20000 {
		t.Error(n)
	}
}

// wrongs are bytes that are no field, with their errors.
var wrongs = map[string]api.Code{
	"\x80":                             api.ErrCut, // of a tag
	"\xff\xff\xff\xff":                 api.ErrCut,
	"\x08":                             api.ErrCut, // of a number
	"\x08\x80":                         api.ErrCut,
	"\x09":                             api.ErrCut, // of eight bytes
	"\x09\x01\x02\x03\x04\x05\x06\x07": api.ErrCut,
	"\x0a":                             api.ErrCut, // of a size
	"\x0a\x80":                         api.ErrCut,
	"\x0a\x01":                         api.ErrCut, // of a Text
	"\x0a\x03ab":                       api.ErrCut,
	"\x0a\x80\x01":                     api.ErrCut,
	"\x0a\xff\xff\xff\xff\xff\xff\xff\xff\x7f":     api.ErrCut,
	"\x0a\x80\x80\x80\x80\x80\x80\x80\x80\x80\x01": api.ErrCut,
	"\x0a\xff\xff\xff\xff\xff\xff\xff\xff\xff\x01": api.ErrCut,
	"\x0d":                     api.ErrCut, // of four bytes
	"\x0d\x01\x02\x03":         api.ErrCut,
	"\x00":                     api.ErrWire, // number 0
	"\x01":                     api.ErrWire,
	"\x02\x00":                 api.ErrWire,
	"\x05":                     api.ErrWire,
	"\x0b":                     api.ErrWire, // wire types that are none
	"\x0c":                     api.ErrWire,
	"\x0e":                     api.ErrWire,
	"\x0f":                     api.ErrWire,
	"\x80\x80\x80\x80\x10\x00": api.ErrWire, // numbers that are too great
	"\x82\x80\x80\x80\x10\x00": api.ErrWire,
	"\xff\xff\xff\xff\xff\xff\xff\xff\xff\x01":     api.ErrWire,
	"\x88\x80\x80\x80\x80\x80\x80\x80\x80\x80\x00": api.ErrRange, // a tag, a number and a size of too many bytes, or bits
	"\x88\x80\x80\x80\x80\x80\x80\x80\x80\x02":     api.ErrRange,
	"\x08\xff\xff\xff\xff\xff\xff\xff\xff\xff\x02": api.ErrRange,
	"\x08\x80\x80\x80\x80\x80\x80\x80\x80\x80\x80": api.ErrRange,
	"\x0a\x80\x80\x80\x80\x80\x80\x80\x80\x80\x02": api.ErrRange,
}

// right is one field of each wire type.
const right = "\x08\x96\x01\x0a\x03abc\x09\x01\x02\x03\x04\x05\x06\x07\x08\x0d\x01\x02\x03\x04"

// 18.1: nil, and pread's error, of bytes that are no fields, by themselves, and behind right ones; what stands behind
// these does not matter, where it can't be theirs.
func TestReadOfWrong(t *testing.T) {
	for s, want := range wrongs {
		for _, ahead := range []string{"", "\x08\x01", "\x0a\x00", right, strings.Repeat(right, 100)} {
			wantFail(t, ahead+s, want)
			if want == api.ErrCut {
				continue
			}
			for _, behind := range []string{"\x08\x01", "\x0b", "\x0d", right} {
				wantFail(t, ahead+s+behind, want)
			}
		}
	}
}

// 18.1: a field's bytes but the last one are cut off, or are a message of less fields.
func TestReadOfCut(t *testing.T) {
	ends := map[int]int{0: 0, 3: 1, 8: 2, 17: 3, 22: 4}
	for at := range len(right) + 1 {
		count, whole := ends[at]
		if !whole {
			wantFail(t, right[:at], api.ErrCut)
		} else if n := read(t, right[:at]).Rest(); n != count {
			t.Errorf("%q: %d fields, want %d", right[:at], n, count)
		}
	}
}

// 18.1: each text of at most four of these bytes is a message, if layer 17 tells its fields; else its error is told.
func TestReadOfAnyBytes(t *testing.T) {
	const letters = "\x00\x01\x02\x03\x08\x09\x0a\x0b\x0d\x10\x12\x61\x7f\x80\x8a\xff"
	var each func(s string, more int)
	each = func(s string, more int) {
		list, want := pread.All(s)
		if want != api.OK {
			wantFail(t, s, want)
		} else {
			wantLittle(t, s, list)
		}
		if more == 0 {
			return
		}
		for i := range len(letters) {
			each(s+letters[i:i+1], more-1)
		}
	}
	each("", 4)
}

// wantLittle asks the message of s for each of its fields' tags alone.
func wantLittle(t *testing.T, s string, list []pread.Field) {
	t.Helper()
	m := read(t, s)
	said, last := saidOf(list)
	for tag := range said {
		wantNum(t, m, list, said, tag.Number, tag.Wire)
		wantTexts(t, m, list, said, tag.Number)
		wantTags(t, m, list, said, last, []ptag.Tag{tag})
	}
	wantTags(t, m, list, said, last, nil)
}

// 18.2: Num of Bytes, and of what is no wire type, is none, also where there are fields of all kinds.
func TestNumOfOtherWires(t *testing.T) {
	m := read(t, right)
	for _, wire := range wires {
		if wire == 0 || wire == 1 || wire == 5 {
			if _, is := m.Num(1, wire); !is {
				t.Error("no", wire)
			}
			continue
		}
		if u, is := m.Num(1, wire); u != 0 || is {
			t.Errorf("Num(1, %d) is %d, %t", wire, u, is)
		}
	}
}

// 18.2: where a number's fields have other wire types alone, it has none of the one that is asked for.
func TestOtherWireAlone(t *testing.T) {
	all := []pread.Field{num(1, 0, 6), num(1, 1, 7), text(1, "8"), num(1, 5, 9)}
	for _, f := range all {
		m := read(t, bytesOf(f, f))
		for _, wire := range []int{0, 1, 5} {
			u, is := m.Num(1, wire)
			if is != (wire == f.Wire) || u != 0 && !is {
				t.Errorf("%v: Num(1, %d) is %d, %t", f, wire, u, is)
			}
		}
		s, one := m.Text(1)
		joined, other := m.Joined(1)
		each := m.Each(1)
		if f.Wire != 2 && (s != "" || one || joined != "" || other || len(each) > 0) {
			t.Errorf("%v: Text %q, %t, Joined %q, %t, Each %q", f, s, one, joined, other, each)
		}
		if f.Wire == 2 && (s != "8" || !one || joined != "88" || !other || !slices.Equal(each, []string{"8", "8"})) {
			t.Errorf("%v: Text %q, %t, Joined %q, %t, Each %q", f, s, one, joined, other, each)
		}
	}
}

// 18.3: the last one of several tags' fields is the last one in the message, whatever order the tags have.
func TestLastWritten(t *testing.T) {
	a, b, c := ptag.Tag{Number: 1, Wire: 0}, ptag.Tag{Number: 1, Wire: 2}, ptag.Tag{Number: 2, Wire: 0}
	m := read(t, "\x08\x05\x0a\x01x\x10\x06\x0a\x01y\x08\x07\x18\x01")
	for _, one := range []struct {
		tags []ptag.Tag
		want pread.Field
		rest int
	}{
		{nil, pread.Field{}, 6},
		{[]ptag.Tag{a}, num(1, 0, 7), 4},
		{[]ptag.Tag{b}, text(1, "y"), 4},
		{[]ptag.Tag{c}, num(2, 0, 6), 5},
		{[]ptag.Tag{a, b}, num(1, 0, 7), 2},
		{[]ptag.Tag{b, a}, num(1, 0, 7), 2},
		{[]ptag.Tag{b, c}, text(1, "y"), 3},
		{[]ptag.Tag{c, b}, text(1, "y"), 3},
		{[]ptag.Tag{a, b, c}, num(1, 0, 7), 1},
		{[]ptag.Tag{c, b, a, b, c}, num(1, 0, 7), 1},
		{[]ptag.Tag{c, c, b, b, b, c}, text(1, "y"), 3},
		{[]ptag.Tag{{Number: 4}, {Number: 2, Wire: 2}}, pread.Field{}, 6},
		{[]ptag.Tag{{Number: 4}, c, {Number: 2, Wire: 2}}, num(2, 0, 6), 5},
		{[]ptag.Tag{{}, {Number: 1, Wire: 3}, {Number: -1}, c, {Number: 1 << 29}, {Number: 0, Wire: 8}, {Number: 1<<61 + 1}}, num(2, 0, 6), 5},
	} {
		if f, is := m.Last(one.tags...); f != one.want || is != (one.want != pread.Field{}) {
			t.Errorf("Last(%v) is %v, %t; want %v", one.tags, f, is, one.want)
		}
		if n := m.Rest(one.tags...); n != one.rest {
			t.Errorf("Rest(%v) is %d, want %d", one.tags, n, one.rest)
		}
	}
}

// 18.3: a last field that is 0 or empty is one all the same.
func TestLastOfZero(t *testing.T) {
	m := read(t, "\x08\x05\x0a\x01x\x08\x00\x0a\x00\x12\x01z")
	a, b := ptag.Tag{Number: 1, Wire: 0}, ptag.Tag{Number: 1, Wire: 2}
	if f, is := m.Last(a); f != num(1, 0, 0) || !is {
		t.Error(f, is)
	}
	if f, is := m.Last(a, b); f != text(1, "") || !is {
		t.Error(f, is)
	}
	if f, is := m.Last(b, a); f != text(1, "") || !is {
		t.Error(f, is)
	}
}

// 18.3: very many tags.
func TestManyTags(t *testing.T) {
	m := read(t, "\xf8\xff\xff\xff\x0f\x07\x08\x05\x0a\x01x")
	var tags []ptag.Tag
	for i := range 100000 {
		tags = append(tags, ptag.Tag{Number: most - i, Wire: 0}, ptag.Tag{Number: i - 50000, Wire: 0})
	}
	if f, is := m.Last(tags...); f != num(1, 0, 5) || !is {
		t.Error(f, is)
	}
	if n := m.Rest(tags...); n != 1 {
		t.Error(n)
	}
}

// 18.4: a message in one part, and in several, with other fields between them, says within another one what all its
// parts say, one behind the other; a part's end may be within a field, since the parts are joined first.
func TestParts(t *testing.T) {
	inner := []pread.Field{num(1, 0, 5), text(1, "a"), num(2, 0, 6), text(2, "b"), num(1, 5, 7), text(1, "c"), num(1, 0, 0), num(1, 1, 8), text(1, "")}
	between := []pread.Field{num(3, 0, 1), text(2, "\x0b"), num(3, 1, 2), text(4, bytesOf(num(1, 0, 99), text(1, "z")))}
	whole := bytesOf(inner...)
	wantSaid(t, joined(t, bytesOf(text(3, whole)), 3), inner)
	for one := range len(whole) + 1 {
		for other := one; other <= len(whole); other++ {
			parts := []pread.Field{between[0], text(3, whole[:one]), between[1], between[2], text(3, whole[one:other]), text(3, whole[other:]), between[3]}
			m := joined(t, bytesOf(parts...), 3)
			if n := m.Rest(); n != len(inner) {
				t.Fatalf("cut at %d and %d: %d fields", one, other, n)
			}
			if other%5 == 0 {
				wantSaid(t, m, inner)
			}
		}
	}
}

// joined reads the message that the fields of a number say together within the message of s.
func joined(t *testing.T, s string, number int) *pmsg.Message {
	t.Helper()
	inner, is := read(t, s).Joined(number)
	if !is {
		t.Fatalf("%q has no %d", s, number)
	}
	return read(t, inner)
}

// 18.4: parts written out: the last number of all parts counts, and texts of parts stand one behind the other; a message
// within a message within a message does so, too.
func TestPartsWritten(t *testing.T) {
	const s = "\x7a\x02\x18\x01\x08\x09\x7a\x04\x12\x02no\x7a\x00\x78\x05\x7a\x02\x18\x02"
	m := joined(t, s, 15)
	if u, is := m.Num(3, ptag.Varint); u != 2 || !is {
		t.Error(u, is)
	}
	if note, is := m.Text(2); note != "no" || !is {
		t.Error(note, is)
	}
	if n := m.Rest(); n != 3 {
		t.Error(n)
	}
	outer := bytesOf(text(1, bytesOf(text(2, "\x08\x01"), text(3, "x"))), text(2, "y"), text(1, bytesOf(text(2, "\x10\x02"), text(2, "\x08\x03"))))
	inner, is := joined(t, outer, 1).Joined(2)
	if inner != "\x08\x01\x10\x02\x08\x03" || !is {
		t.Errorf("%q, %t", inner, is)
	}
	wantSaid(t, read(t, inner), []pread.Field{num(1, 0, 1), num(2, 0, 2), num(1, 0, 3)})
}

// 18.4 and 18.1: parts that are none by themselves are one together, and parts of which one is wrong are none.
func TestWrongParts(t *testing.T) {
	for s, want := range wrongs {
		inner, is := read(t, bytesOf(text(1, right), num(1, 0, 1), text(1, s))).Joined(1)
		if !is || inner != right+s {
			t.Errorf("%q, %t", inner, is)
		}
		wantFail(t, inner, want)
	}
	inner, _ := read(t, bytesOf(text(1, "\x0a"), text(1, "\x03a"), text(2, "-"), text(1, "bc"))).Joined(1)
	wantSaid(t, read(t, inner), []pread.Field{text(1, "abc")})
}

// 18.4: a nil message has nothing, whatever it is asked.
func TestNil(t *testing.T) {
	var m *pmsg.Message
	wantSaid(t, m, nil)
	m, _ = pmsg.Read("\x0b")
	wantSaid(t, m, nil)
	if list := m.Each(1); len(list) != 0 {
		t.Error(list)
	}
	if n := m.Rest(); n != 0 {
		t.Error(n)
	}
	if f, is := m.Last(); f != (pread.Field{}) || is {
		t.Error(f, is)
	}
}

// 18.2 and 18.3: what was asked before changes no answer, nor does another message.
func TestAgain(t *testing.T) {
	one := []pread.Field{num(1, 0, 5), text(1, "a"), text(2, "b"), text(1, "c"), num(1, 5, 6)}
	other := []pread.Field{text(1, "x"), num(1, 1, 7), text(2, "")}
	m := read(t, bytesOf(one...))
	wantSaid(t, m, one)
	n := read(t, bytesOf(other...))
	for range 3 {
		wantSaid(t, m, one)
		wantSaid(t, n, other)
	}
	if _, code := pmsg.Read("\x0b"); code != api.ErrWire {
		t.Error(code)
	}
	wantSaid(t, m, one)
}

// R3: what a caller writes into an answer changes none of the message's later ones, nor an earlier one.
func TestAnswersApart(t *testing.T) {
	list := []pread.Field{text(1, "a"), num(1, 0, 5), text(1, ""), text(1, "c"), text(2, "d")}
	m := read(t, bytesOf(list...))
	one, other := m.Each(1), m.Each(1)
	_ = append(one[:1], "x")
	for i := range one[:cap(one)] {
		one[:cap(one)][i] = "y"
	}
	if want := []string{"a", "", "c"}; !slices.Equal(other, want) {
		t.Error(other)
	}
	wantSaid(t, m, list)
	f, _ := m.Last(ptag.Tag{Number: 1, Wire: 2})
	f.Text, f.Number = "z", 9
	wantSaid(t, m, list)
	if f.Text != "z" || f.Number != 9 || f.Wire != 2 {
		t.Error(f)
	}
}

// R3: tags that are handed in stay as they are, and those behind the list's length are not read; what is written into the
// list afterwards changes no answer.
func TestTagsApart(t *testing.T) {
	list := []pread.Field{num(1, 0, 5), text(1, "a"), num(2, 0, 6), text(2, "b")}
	m := read(t, bytesOf(list...))
	whole := []ptag.Tag{{Number: 2, Wire: 0}, {Number: 1, Wire: 0}, {Number: 2, Wire: 0}, {Number: 2, Wire: 2}, {Number: 1, Wire: 2}}
	tags := slices.Clone(whole)
	if f, is := m.Last(tags[:3]...); f != num(2, 0, 6) || !is {
		t.Error(f, is)
	}
	if n := m.Rest(tags[:3]...); n != 2 {
		t.Error(n)
	}
	if f, is := m.Last(tags[:0]...); f != (pread.Field{}) || is {
		t.Error(f, is)
	}
	if n := m.Rest(tags[:0]...); n != 4 {
		t.Error(n)
	}
	if !slices.Equal(tags, whole) {
		t.Error(tags)
	}
	clear(tags)
	wantSaid(t, m, list)
}
