package pwrite_test

import (
	"encoding/binary"
	"math"
	"math/rand"
	"slices"
	"strings"
	"testing"

	"truchman/api"
	"truchman/pmsg"
	"truchman/pread"
	"truchman/ptag"
	"truchman/pwrite"
)

// most is the greatest number of a field.
const most = 536870911

// calls are the six that add a field.
const (
	sure = iota
	num
	sureText
	text
	sureSub
	sub
	kinds
)

// call is one of the six, with what it is given; x is the place of a message among several ones.
type call struct {
	kind   int
	number int
	wire   int
	u      uint64
	s      string
	x      int
}

// do calls a message of the program.
func do(m *pwrite.Message, c call, all []*pwrite.Message) {
	switch c.kind {
	case sure:
		m.Sure(c.number, c.wire, c.u)
	case num:
		m.Num(c.number, c.wire, c.u)
	case sureText:
		m.SureText(c.number, c.s)
	case text:
		m.Text(c.number, c.s)
	case sureSub:
		m.SureSub(c.number, all[c.x])
	case sub:
		m.Sub(c.number, all[c.x])
	}
}

// book is a message that is made apart from the program, of the bytes alone.
type book struct {
	s string
}

// whole tells the bytes of a book, of a nil one none.
func (b *book) whole() string {
	if b == nil {
		return ""
	}
	return b.s
}

// note calls a book as the program's message is called.
func (b *book) note(c call, all []*book) {
	if b == nil || c.number < 1 || c.number > most {
		return
	}
	switch {
	case c.kind == num && c.u == 0, c.kind == text && c.s == "", c.kind >= sureSub && all[c.x] == nil, c.kind == sub && all[c.x].s == "":
		return
	case c.kind <= num:
		b.s += numOf(c.number, c.wire, c.u)
	case c.kind <= text:
		b.s += textOf(c.number, c.s)
	default:
		b.s += textOf(c.number, all[c.x].s)
	}
}

// short tells a number's bytes by the library.
func short(u uint64) string {
	return string(binary.AppendUvarint(nil, u))
}

// numOf tells the bytes of a field with a number by the library; none of Bytes, and of what is no wire type.
func numOf(number, wire int, u uint64) string {
	tag := short(uint64(number)*8 + uint64(wire))
	switch wire {
	case 0:
		return tag + short(u)
	case 1:
		return tag + string(binary.LittleEndian.AppendUint64(nil, u))
	case 5:
		return tag + string(binary.LittleEndian.AppendUint32(nil, uint32(u)))
	}
	return ""
}

// textOf tells the bytes of a field with bytes by the library.
func textOf(number int, s string) string {
	return short(uint64(number)*8+2) + short(uint64(len(s))) + s
}

// want asks a message for its size and its bytes.
func want(t *testing.T, m *pwrite.Message, bytes string) {
	t.Helper()
	if n := m.Size(); n != len(bytes) {
		t.Fatalf("Size is %d, want %d of %.200q", n, len(bytes), bytes)
	}
	if s := m.Bytes(); s != bytes {
		t.Fatalf("Bytes are %.200q, want %.200q", s, bytes)
	}
}

// wantCalls makes a message of calls, on itself and on others that stand behind it at their places.
func wantCalls(t *testing.T, others []string, calls ...call) {
	t.Helper()
	all, books := []*pwrite.Message{pwrite.New()}, []*book{{}}
	for _, s := range others {
		all, books = append(all, ofBytes(t, s)), append(books, &book{s})
	}
	all, books = append(all, nil), append(books, nil)
	for _, c := range calls {
		do(all[0], c, all)
		books[0].note(c, books)
	}
	if all[0].Size() != len(books[0].s) || all[0].Bytes() != books[0].s {
		t.Fatalf("%.300v: %d, %.200q; want %d, %.200q", calls, all[0].Size(), all[0].Bytes(), len(books[0].s), books[0].s)
	}
	for i, s := range others {
		want(t, all[i+1], s)
	}
}

// ofBytes makes a message of the fields of a text.
func ofBytes(t *testing.T, s string) *pwrite.Message {
	t.Helper()
	fields, code := pread.All(s)
	if code != api.OK {
		t.Fatalf("%q: %d", s, code)
	}
	m := pwrite.New()
	for _, f := range fields {
		if f.Wire == 2 {
			m.SureText(f.Number, f.Text)
		} else {
			m.Sure(f.Number, f.Wire, f.Num)
		}
	}
	return m
}

// What the tests hold the program against is itself what is written out.
func TestMadeApart(t *testing.T) {
	books := []*book{{}, {"\x08\x05"}, {}, nil}
	for _, c := range []call{
		{kind: sure, number: 1, wire: 0, u: 150}, {kind: num, number: 16, wire: 0, u: 1}, {kind: sure, number: 3, wire: 1, u: 0x0807060504030201}, {kind: num, number: 7, wire: 5, u: 0xff04030201},
		{kind: sure, number: 1}, {kind: num, number: 1}, {kind: sure, number: 1, wire: 2, u: 1}, {kind: num, number: 1, wire: 3, u: 1}, {kind: sure, number: 0, u: 1}, {kind: num, number: most + 1, u: 1},
		{kind: sureText, number: 2, s: "ab"}, {kind: text, number: 2, s: "a"}, {kind: sureText, number: most}, {kind: text, number: 2},
		{kind: sureSub, number: 4, x: 1}, {kind: sub, number: 4, x: 1}, {kind: sureSub, number: 4, x: 2}, {kind: sub, number: 4, x: 2}, {kind: sureSub, number: 4, x: 3}, {kind: sub, number: 4, x: 3},
	} {
		books[0].note(c, books)
		books[3].note(c, books)
	}
	const apart = "\x08\x96\x01\x80\x01\x01\x19\x01\x02\x03\x04\x05\x06\x07\x08\x3d\x01\x02\x03\x04\x08\x00\x12\x02ab\x12\x01a\xfa\xff\xff\xff\x0f\x00\x22\x02\x08\x05\x22\x02\x08\x05\x22\x00"
	if s := books[0].whole(); s != apart {
		t.Errorf("%q, want %q", s, apart)
	}
	if s := books[3].whole(); s != "" {
		t.Errorf("%q", s)
	}
}

// The chapter's example.
func TestExamples(t *testing.T) {
	m := pwrite.New()
	m.Num(1, ptag.Varint, 0)
	want(t, m, "")
	m.Num(1, ptag.Varint, 150)
	want(t, m, "\x08\x96\x01")
}

// 19.1 and 19.2: a message without fields, which is another one each time.
func TestNew(t *testing.T) {
	m, n := pwrite.New(), pwrite.New()
	if m == nil || n == nil || m == n {
		t.Fatal(m, n)
	}
	want(t, m, "")
	m.Sure(1, 0, 5)
	want(t, n, "")
	want(t, pwrite.New(), "")
	want(t, m, "\x08\x05")
}

// written are calls on a message, with its bytes, written out; the messages behind it are inner's, one without fields, and
// a nil one.
var written = []struct {
	calls []call
	want  string
}{
	{nil, ""},
	{[]call{{kind: sure, number: 1, wire: 0, u: 0}}, "\x08\x00"},
	{[]call{{kind: sure, number: 1, wire: 0, u: 127}}, "\x08\x7f"},
	{[]call{{kind: sure, number: 1, wire: 0, u: 128}}, "\x08\x80\x01"},
	{[]call{{kind: num, number: 1, wire: 0, u: 300}}, "\x08\xac\x02"},
	{[]call{{kind: sure, number: 1, wire: 0, u: math.MaxUint64}}, "\x08\xff\xff\xff\xff\xff\xff\xff\xff\xff\x01"},
	{[]call{{kind: sure, number: 1, wire: 1, u: 0}}, "\x09\x00\x00\x00\x00\x00\x00\x00\x00"},
	{[]call{{kind: num, number: 1, wire: 1, u: 0x8877665544332211}}, "\x09\x11\x22\x33\x44\x55\x66\x77\x88"},
	{[]call{{kind: sure, number: 1, wire: 5, u: 0}}, "\x0d\x00\x00\x00\x00"},
	{[]call{{kind: num, number: 1, wire: 5, u: 0x44332211}}, "\x0d\x11\x22\x33\x44"},
	{[]call{{kind: num, number: 1, wire: 5, u: 0x8877665544332211}}, "\x0d\x11\x22\x33\x44"},
	{[]call{{kind: num, number: 1, wire: 5, u: 1 << 32}}, "\x0d\x00\x00\x00\x00"},
	{[]call{{kind: num, number: 1, wire: 5, u: math.MaxUint64}}, "\x0d\xff\xff\xff\xff"},
	{[]call{{kind: num, number: 1, wire: 0}, {kind: num, number: 1, wire: 1}, {kind: num, number: 1, wire: 5}}, ""},
	{[]call{{kind: sure, number: 15, wire: 0, u: 1}, {kind: sure, number: 16, wire: 0, u: 1}, {kind: sure, number: most, wire: 0, u: 1}}, "\x78\x01\x80\x01\x01\xf8\xff\xff\xff\x0f\x01"},
	{[]call{{kind: num, number: most, wire: 5, u: 1}, {kind: num, number: 1, wire: 5, u: 1}}, "\xfd\xff\xff\xff\x0f\x01\x00\x00\x00\x0d\x01\x00\x00\x00"},
	{[]call{{kind: sureText, number: 1, s: ""}}, "\x0a\x00"},
	{[]call{{kind: text, number: 1, s: ""}}, ""},
	{[]call{{kind: sureText, number: 1, s: "a"}, {kind: text, number: 2, s: "\xff\x80"}}, "\x0a\x01a\x12\x02\xff\x80"},
	{[]call{{kind: text, number: most, s: "\x00"}}, "\xfa\xff\xff\xff\x0f\x01\x00"},
	{[]call{{kind: sureSub, number: 1, x: 1}}, "\x0a\x05\x08\x05\x12\x01a"},
	{[]call{{kind: sub, number: 1, x: 1}}, "\x0a\x05\x08\x05\x12\x01a"},
	{[]call{{kind: sureSub, number: 1, x: 2}}, "\x0a\x00"},
	{[]call{{kind: sub, number: 1, x: 2}}, ""},
	{[]call{{kind: sureSub, number: 1, x: 3}, {kind: sub, number: 1, x: 3}}, ""},
	{[]call{{kind: sub, number: most, x: 1}}, "\xfa\xff\xff\xff\x0f\x05\x08\x05\x12\x01a"},
	{[]call{{kind: sureSub, number: 1, x: 0}}, "\x0a\x00"},
	{[]call{{kind: sub, number: 1, x: 0}}, ""},
	{[]call{{kind: sureSub, number: 1, x: 0}, {kind: sub, number: 2, x: 0}, {kind: sureSub, number: 1, x: 0}}, "\x0a\x00\x12\x02\x0a\x00\x0a\x06\x0a\x00\x12\x02\x0a\x00"},
	{[]call{{kind: sub, number: 1, x: 1}, {kind: num, number: 1, u: 7}, {kind: sub, number: 1, x: 1}}, "\x0a\x05\x08\x05\x12\x01a\x08\x07\x0a\x05\x08\x05\x12\x01a"},
	{[]call{{kind: num, number: 2, u: 7}, {kind: text, number: 1, s: "b"}, {kind: num, number: 1, u: 7}, {kind: num, number: 1, u: 7}, {kind: text, number: 1, s: "a"}}, "\x10\x07\x0a\x01b\x08\x07\x08\x07\x0a\x01a"},
}

// 19.1 and 19.2: messages, written out.
func TestWritten(t *testing.T) {
	for _, one := range written {
		inner := pwrite.New()
		inner.Num(1, 0, 5)
		inner.Text(2, "a")
		all := []*pwrite.Message{pwrite.New(), inner, pwrite.New(), nil}
		for _, c := range one.calls {
			do(all[0], c, all)
		}
		want(t, all[0], one.want)
		want(t, inner, "\x08\x05\x12\x01a")
		want(t, all[2], "")
	}
}

// wholes are numbers that fields have: at the ends of what so many bytes by sevens hold, of 32 bits, and of 64.
var wholes = []uint64{0, 1, 2, 127, 128, 150, 255, 256, 16383, 16384, 1<<21 - 1, 1 << 21, 1<<28 - 1, 1 << 28, 1<<31 - 1, 1 << 31, math.MaxUint32, 1 << 32, 1<<32 + 1, 1<<35 - 1, 1 << 35, 7 << 32, 1 << 42, 1 << 49, 1 << 56, 1<<63 - 1, 1 << 63, math.MaxUint64}

// strung are bytes that fields have: none, one and many, of characters and of others, up to sizes that have a byte more.
var strung = []string{"", "\x00", "a", "\xff", "\x80", "ab", "\x08\x01", "\x0a\x01a", "\xe2\x82\xac", "\xe2\x82", strings.Repeat("x", 127), strings.Repeat("\xfe", 128), strings.Repeat("y", 16383), strings.Repeat("\x0a", 16384)}

// numbers are those that fields may have, at the ends of what so many bytes hold.
var numbers = []int{1, 2, 3, 15, 16, 17, 2047, 2048, 1<<18 - 1, 1 << 18, 1<<25 - 1, 1 << 25, most - 1, most}

// 19.1 and 19.2: one field of each number, of each wire type, 0 too, and the same one twice.
func TestNumbers(t *testing.T) {
	for _, number := range numbers {
		for _, wire := range []int{0, 1, 5} {
			for _, u := range wholes {
				one, other := call{kind: sure, number: number, wire: wire, u: u}, call{kind: num, number: number, wire: wire, u: u}
				wantCalls(t, nil, one)
				wantCalls(t, nil, other)
				wantCalls(t, nil, one, other, other, one)
				wantCalls(t, nil, other, call{kind: text, number: number, s: "-"}, one)
			}
		}
	}
}

// 19.1 and 19.2: one field of each size, with bytes, and with a message that has these, and the same one twice.
func TestTexts(t *testing.T) {
	for _, number := range numbers {
		for _, s := range strung {
			one, other := call{kind: sureText, number: number, s: s}, call{kind: text, number: number, s: s}
			wantCalls(t, nil, one)
			wantCalls(t, nil, other)
			wantCalls(t, nil, one, other, other, one)
			inner := []string{textOf(3, s)}
			one, other = call{kind: sureSub, number: number, x: 1}, call{kind: sub, number: number, x: 1}
			wantCalls(t, inner, one)
			wantCalls(t, inner, other)
			wantCalls(t, inner, one, other, other, call{kind: num, number: number, u: 5}, one)
		}
	}
}

// 19.1 and 19.2: texts, and messages, of each size about those where the size has a byte more.
func TestSizes(t *testing.T) {
	for _, end := range []int{0, 1 << 7, 1 << 14, 1 << 21} {
		for size := max(0, end-6); size < end+3; size++ {
			s := strings.Repeat("z", size)
			wantCalls(t, []string{textOf(1, s)}, call{kind: text, number: 1, s: s}, call{kind: sub, number: 2, x: 1}, call{kind: sub, number: 3, x: 0})
		}
	}
}

// 19.1 and 19.2: each message of at most four of these calls, of all six kinds, on itself, on one with fields, on one
// without, and on none.
func TestFewCalls(t *testing.T) {
	few := []call{
		{kind: sure, number: 1, wire: 0, u: 0}, {kind: num, number: 1, wire: 1, u: 5}, {kind: sure, number: 1, wire: 5, u: 1 << 32}, {kind: num, number: 2, wire: 0, u: 0},
		{kind: sureText, number: 1}, {kind: text, number: 1, s: "ab"}, {kind: text, number: 2},
		{kind: sureSub, number: 1, x: 0}, {kind: sub, number: 2, x: 0}, {kind: sub, number: 1, x: 1}, {kind: sureSub, number: 2, x: 2}, {kind: sub, number: 2, x: 2}, {kind: sureSub, number: 1, x: 3},
		{kind: sure, number: 0, u: 5}, {kind: sure, number: 1, wire: 2, u: 5},
	}
	var each func(list []call, more int)
	each = func(list []call, more int) {
		wantCalls(t, []string{"\x08\x05\x12\x01a", ""}, list...)
		if more == 0 {
			return
		}
		for _, c := range few {
			each(append(slices.Clone(list), c), more-1)
		}
	}
	each(nil, 4)
}

// callOfChance tells a call on one of so many messages, mostly of a tag that may be.
func callOfChance(chance *rand.Rand, count int) call {
	c := call{kind: chance.Intn(kinds), x: chance.Intn(count)}
	c.number = []int{1, 1, 2, 3, 15, 16, 1 + chance.Intn(most), most, chance.Intn(3) - 1, most + chance.Intn(3)}[chance.Intn(10)]
	c.wire = []int{0, 1, 5, 0, 1, 5, 0, 5, 2, chance.Intn(10) - 1}[chance.Intn(10)]
	c.u = chance.Uint64() >> chance.Intn(65) << (chance.Intn(3) * 16)
	s := make([]byte, chance.Intn(4)*chance.Intn(60))
	chance.Read(s)
	c.s = string(s)
	return c
}

// 19.1 and 19.2: calls by chance, the same ones each time, on several messages that are put into each other and into
// themselves; a nil one is among them.
func TestChance(t *testing.T) {
	chance := rand.New(rand.NewSource(19))
	for range 1500 {
		all := []*pwrite.Message{pwrite.New(), pwrite.New(), pwrite.New(), pwrite.New(), nil}
		books := []*book{{}, {}, {}, {}, nil}
		for range 40 {
			at, c := chance.Intn(len(all)), callOfChance(chance, len(all))
			if c.kind >= sureSub && len(books[at].whole())+len(books[c.x].whole()) > 20000 {
				continue
			}
			do(all[at], c, all)
			books[at].note(c, books)
			if chance.Intn(4) == 0 {
				one := chance.Intn(len(all))
				want(t, all[one], books[one].whole())
			}
		}
		for i, m := range all {
			want(t, m, books[i].whole())
		}
	}
}

// 19.1: what is read of a message's bytes are the fields that were added, in order.
func TestReadBack(t *testing.T) {
	chance := rand.New(rand.NewSource(1))
	for range 500 {
		m := pwrite.New()
		var list []pread.Field
		for range chance.Intn(20) {
			f := pread.Field{Number: 1 + chance.Intn(20), Wire: []int{0, 1, 2, 5}[chance.Intn(4)]}
			switch f.Wire {
			case 2:
				f.Text = strings.Repeat("q", chance.Intn(300))
				m.SureText(f.Number, f.Text)
			case 5:
				f.Num = uint64(chance.Uint32())
				m.Sure(f.Number, f.Wire, f.Num)
			default:
				f.Num = chance.Uint64() >> chance.Intn(64)
				m.Sure(f.Number, f.Wire, f.Num)
			}
			list = append(list, f)
		}
		if got, code := pread.All(m.Bytes()); code != api.OK || !slices.Equal(got, list) {
			t.Fatalf("%v, %d; want %v", got, code, list)
		}
	}
}

// 19.1: messages within messages within messages, each of which says what was told to it.
func TestWithin(t *testing.T) {
	one, two, three := pwrite.New(), pwrite.New(), pwrite.New()
	three.Num(1, ptag.Varint, 150)
	three.Text(2, "abc")
	two.Sub(7, three)
	two.Num(8, ptag.Fixed32, 9)
	two.SureSub(7, three)
	one.SureSub(1, two)
	one.Sub(2, three)
	const inner = "\x08\x96\x01\x12\x03abc"
	const middle = "\x3a\x08" + inner + "\x45\x09\x00\x00\x00\x3a\x08" + inner
	want(t, three, inner)
	want(t, two, middle)
	want(t, one, "\x0a\x19"+middle+"\x12\x08"+inner)
	m, _ := pmsg.Read(one.Bytes())
	s, _ := m.Text(1)
	m, _ = pmsg.Read(s)
	if s, is := m.Joined(7); s != inner+inner || !is {
		t.Errorf("%q, %t", s, is)
	}
}

// 19.1: a message within has the bytes that it had when it was added: none of what is added to it, or to what is within
// it, afterwards, however many fields it has by then.
func TestAsItIsNow(t *testing.T) {
	m, inner, innermost := pwrite.New(), pwrite.New(), pwrite.New()
	var said []string
	var outers []*pwrite.Message
	for i := range 70 {
		m.SureSub(1, inner)
		m.Sub(2, innermost)
		outer := pwrite.New()
		outer.SureSub(3, inner)
		outer.SureSub(3, innermost)
		outers, said = append(outers, outer), append(said, textOf(3, inner.Bytes())+textOf(3, innermost.Bytes()))
		innermost.Sure(1, 0, uint64(i))
		if i%3 == 0 {
			inner.SureSub(4, innermost)
		}
		inner.SureText(5, strings.Repeat("i", i))
		for at, outer := range outers {
			want(t, outer, said[at])
		}
	}
	fields, code := pread.All(m.Bytes())
	if code != api.OK || len(fields) != 70+69 {
		t.Fatal(len(fields), code)
	}
	if fields[0].Text != "" || fields[1].Text != "\x22\x02\x08\x00\x2a\x00" || fields[2] != (pread.Field{Number: 2, Wire: 2, Text: "\x08\x00"}) {
		t.Errorf("%v", fields[:3])
	}
}

// 19.1: one message twice, in one and in two others, with a field of its own added between.
func TestSameTwice(t *testing.T) {
	x, m, n := pwrite.New(), pwrite.New(), pwrite.New()
	x.Text(1, "a")
	m.Sub(1, x)
	m.Sub(1, x)
	n.Sub(2, x)
	x.Num(3, 0, 4)
	m.Sub(1, x)
	n.SureSub(2, x)
	x.Num(3, 0, 5)
	want(t, m, "\x0a\x03\x0a\x01a\x0a\x03\x0a\x01a\x0a\x05\x0a\x01a\x18\x04")
	want(t, n, "\x12\x03\x0a\x01a\x12\x05\x0a\x01a\x18\x04")
	want(t, x, "\x0a\x01a\x18\x04\x18\x05")
	m.Sub(2, n)
	n.Sub(2, m)
	if m.Size() != 17+12+2 || n.Size() != 12+31+2 {
		t.Error(m.Size(), n.Size())
	}
	want(t, n, "\x12\x03\x0a\x01a\x12\x05\x0a\x01a\x18\x04\x12\x1f"+m.Bytes())
}

// 19.1: a message within itself has the bytes that it had, as often as it is added.
func TestWithinItself(t *testing.T) {
	m := pwrite.New()
	m.Sub(1, m)
	want(t, m, "")
	m.SureSub(1, m)
	bytes := "\x0a\x00"
	for i := range 15 {
		want(t, m, bytes)
		if i%2 == 0 {
			m.Sub(2, m)
		} else {
			m.SureSub(2, m)
		}
		bytes += textOf(2, bytes)
		m.Num(3, 0, uint64(i))
		if i > 0 {
			bytes += numOf(3, 0, uint64(i))
		}
	}
	want(t, m, bytes)
}

// 19.2: the size of a message of nearly as many bytes as may be is known, though they are not laid.
func TestSizeOfMuch(t *testing.T) {
	m := pwrite.New()
	m.Sure(1, 0, 0)
	size := 2
	for size < 1<<30-10 {
		m.Sub(1, m)
		size += 1 + len(short(uint64(size))) + size
		if m.Size() != size {
			t.Fatalf("%d, want %d", m.Size(), size)
		}
	}
}

// 19.1 and 19.2: messages within each other, as deep as may be.
func TestDeep(t *testing.T) {
	m := pwrite.New()
	m.Num(1, 0, 5)
	heads := []string{"\x08\x05"}
	size := 2
	for range 1 << 16 {
		outer := pwrite.New()
		outer.Sub(1, m)
		head := "\x0a" + short(uint64(size))
		heads = append(heads, head)
		size += len(head)
		m = outer
	}
	slices.Reverse(heads)
	want(t, m, strings.Join(heads, ""))
}

// 19.1 and 19.2: a message of very many fields, and very many messages within one.
func TestMany(t *testing.T) {
	m, x, outer := pwrite.New(), pwrite.New(), pwrite.New()
	var bytes, outside strings.Builder
	for i := range 30000 {
		m.Sure(1+i%20, []int{0, 1, 5}[i%3], uint64(i)<<20)
		bytes.WriteString(numOf(1+i%20, []int{0, 1, 5}[i%3], uint64(i)<<20))
		m.SureText(2, "abcdef"[i%6:])
		bytes.WriteString(textOf(2, "abcdef"[i%6:]))
		if i%500 == 0 {
			x.Num(1, 0, uint64(i))
		}
		outer.Sub(9, x)
		if s := x.Bytes(); s != "" {
			outside.WriteString(textOf(9, s))
		}
	}
	want(t, m, bytes.String())
	want(t, outer, outside.String())
}

// wrongNumbers are those that no field has, among them such as are told from others in their lowest 29, 32 or 61 bits, or
// by their sign alone.
var wrongNumbers = []int{0, -1, -2, -8, -most, most + 1, most + 2, 1<<29 + 1, 1 << 31, 1<<32 + 1, 1<<61 + 1, math.MaxInt64, math.MinInt64, math.MinInt64 + 1}

// wrongWires are those that are no wire types.
var wrongWires = []int{3, 4, 6, 7, 8, 9, 10, 13, -1, -2, -3, -5, -6, -8, 1 << 32, 1<<32 + 1, 1<<32 + 5, math.MaxInt64, math.MinInt64, math.MinInt64 + 1}

// 19.1: nothing is added by any of the six where there is no such tag, nor by Sure and Num for Bytes, nor of a nil
// message; what is there stays, and what comes behind is added.
func TestWrong(t *testing.T) {
	var wrong []call
	for _, number := range wrongNumbers {
		for kind := range kinds {
			wrong = append(wrong, call{kind: kind, number: number, wire: 0, u: 5, s: "a", x: 1})
		}
		wrong = append(wrong, call{kind: sure, number: number, wire: 5}, call{kind: sure, number: number, wire: 1, u: 1}, call{kind: num, number: number, wire: 2, u: 1}, call{kind: sureText, number: number}, call{kind: sureSub, number: number, x: 2}, call{kind: sureSub, number: number, x: 3})
	}
	for _, wire := range append(slices.Clone(wrongWires), 2) {
		for _, number := range []int{1, 2, most, 0} {
			wrong = append(wrong, call{kind: sure, number: number, wire: wire}, call{kind: sure, number: number, wire: wire, u: 5}, call{kind: num, number: number, wire: wire, u: 5}, call{kind: num, number: number, wire: wire})
		}
	}
	wrong = append(wrong, call{kind: sureSub, number: 1, x: 3}, call{kind: sub, number: 1, x: 3}, call{kind: num, number: 1}, call{kind: text, number: 1}, call{kind: sub, number: 1, x: 2})
	all := []*pwrite.Message{pwrite.New(), ofBytes(t, "\x08\x05"), pwrite.New(), nil}
	var bytes string
	for _, c := range wrong {
		do(all[0], c, all)
		want(t, all[0], bytes)
		do(all[2], c, all)
		want(t, all[2], "")
		all[0].Num(1, 0, 9)
		bytes += "\x08\x09"
	}
	want(t, all[0], bytes)
	want(t, all[1], "\x08\x05")
}

// 19.1: a message to which nothing but what can't be was added has no bytes, as one without fields.
func TestSubOfWrong(t *testing.T) {
	x, m := pwrite.New(), pwrite.New()
	x.Sure(1, 2, 5)
	x.SureText(0, "a")
	m.Sub(1, x)
	want(t, m, "")
	m.SureSub(1, x)
	want(t, m, "\x0a\x00")
}

// 19.1 and 19.2: a nil message does nothing, and has no bytes, whatever it is told.
func TestNil(t *testing.T) {
	var m *pwrite.Message
	x := ofBytes(t, "\x08\x05")
	all := []*pwrite.Message{m, x, pwrite.New()}
	for kind := range kinds {
		for at := range all {
			do(m, call{kind: kind, number: 1, wire: 0, u: 5, s: "a", x: at}, all)
			do(m, call{kind: kind, number: 0, wire: 2, x: at}, all)
			want(t, m, "")
		}
	}
	want(t, x, "\x08\x05")
	want(t, all[2], "")
}

// 19.2: the bytes asked twice, and between two fields, are what they were; what was answered stays as it is.
func TestAgain(t *testing.T) {
	m, x := pwrite.New(), pwrite.New()
	var answers, said []string
	var bytes string
	for i := range 200 {
		x.Sure(1, 0, uint64(i))
		c := []call{{kind: sure, number: 1, wire: 0, u: uint64(i)}, {kind: text, number: 2, s: strings.Repeat("t", i)}, {kind: sub, number: 3, x: 0}, {kind: num, number: 4, wire: 5, u: 1 << i}}[i%4]
		b := &book{bytes}
		b.note(c, []*book{{x.Bytes()}})
		do(m, c, []*pwrite.Message{x})
		bytes = b.s
		want(t, m, bytes)
		want(t, m, bytes)
		answers, said = append(answers, m.Bytes()), append(said, strings.Clone(bytes))
	}
	if !slices.Equal(answers, said) {
		t.Error("an answer was changed")
	}
}
