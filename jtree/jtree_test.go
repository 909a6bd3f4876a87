package jtree_test

import (
	"bytes"
	"encoding/json"
	"fmt"
	"math"
	"math/rand"
	"reflect"
	"slices"
	"strconv"
	"strings"
	"testing"

	"truchman/api"
	"truchman/cursor"
	"truchman/jstring"
	"truchman/jtoken"
	"truchman/jtree"
)

// node tells a node that is written out.
func node(kind byte, key, text string, size int) jtree.Node {
	return jtree.Node{Kind: kind, Key: key, Text: text, Size: size}
}

// leaf is a value without kids, with its node, as it stands under no key.
type leaf struct {
	s    string
	node jtree.Node
}

var leaves = []leaf{
	{"true", node('t', "", "", 1)},
	{"false", node('f', "", "", 1)},
	{"null", node('z', "", "", 1)},
	// Texts.
	{`""`, node('s', "", "", 1)},
	{`" "`, node('s', "", " ", 1)},
	{`"a"`, node('s', "", "a", 1)},
	{`"null"`, node('s', "", "null", 1)},
	{`"12"`, node('s', "", "12", 1)},
	{`"{\"a\":[1,true]}"`, node('s', "", `{"a":[1,true]}`, 1)},
	{`"\"\\\/\b\f\n\r\t"`, node('s', "", "\"\\/\x08\x0c\x0a\x0d\x09", 1)},
	{`"\u0041\u20ac\ud83d\ude00"`, node('s', "", "A\xe2\x82\xac\xf0\x9f\x98\x80", 1)},
	{"\"\xc3\xa9\xe2\x82\xac\xf0\x9f\x98\x80\x7f\"", node('s', "", "\xc3\xa9\xe2\x82\xac\xf0\x9f\x98\x80\x7f", 1)},
	// Numbers in all forms: what is kept of them is the text.
	{"0", node('n', "", "0", 1)},
	{"-0", node('n', "", "-0", 1)},
	{"7", node('n', "", "7", 1)},
	{"-12", node('n', "", "-12", 1)},
	{"0.50", node('n', "", "0.50", 1)},
	{"1.0", node('n', "", "1.0", 1)},
	{"-10.050", node('n', "", "-10.050", 1)},
	{"1e5", node('n', "", "1e5", 1)},
	{"1E5", node('n', "", "1E5", 1)},
	{"1e+05", node('n', "", "1e+05", 1)},
	{"1E-05", node('n', "", "1E-05", 1)},
	{"-1.50E+070", node('n', "", "-1.50E+070", 1)},
	{"0e0", node('n', "", "0e0", 1)},
	{"1e99999999999999999999999", node('n', "", "1e99999999999999999999999", 1)},
	{"123456789012345678901234567890.5", node('n', "", "123456789012345678901234567890.5", 1)},
}

// key is a member's key in JSON, with the bytes for which it stands.
type key struct {
	s    string
	text string
}

var keys = []key{
	{`""`, ""},
	{`" "`, " "},
	{`"a"`, "a"},
	{`"A"`, "A"},
	{`"ab"`, "ab"},
	{`"null"`, "null"},
	{`"1"`, "1"},
	{`"{\"a\":[]}"`, `{"a":[]}`},
	{`"\""`, `"`},
	{`"\\"`, `\`},
	{`"\/"`, "/"},
	{`"\n"`, "\n"},
	{`"\u0000"`, "\x00"},
	{`"\u0062"`, "b"},
	{`"\u20ac"`, "\xe2\x82\xac"},
	{`"\ud83d\ude00"`, "\xf0\x9f\x98\x80"},
	{"\"e\xcc\x81\"", "e\xcc\x81"},
	{"\"\xc3\xa9\"", "\xc3\xa9"},
}

// blanks are the four of them, and several together.
var blanks = []string{" ", "\t", "\n", "\r", "  ", "\r\n", " \t\n\r\r\n\t ", strings.Repeat(" \n", 300)}

// tree is a text with its nodes, written out, and the places of each node's kids.
type tree struct {
	s    string
	l    []jtree.Node
	kids [][]int
}

var trees = []tree{
	// The chapter's example.
	{`{"a": [1, true]}`, []jtree.Node{node('{', "", "", 4), node('[', "a", "", 3), node('n', "", "1", 1), node('t', "", "", 1)}, [][]int{{1}, {2, 3}, nil, nil}},
	// Nothing within.
	{"[]", []jtree.Node{node('[', "", "", 1)}, [][]int{nil}},
	{"{}", []jtree.Node{node('{', "", "", 1)}, [][]int{nil}},
	// One, two, and several.
	{"[null]", []jtree.Node{node('[', "", "", 2), node('z', "", "", 1)}, [][]int{{1}, nil}},
	{`["a"]`, []jtree.Node{node('[', "", "", 2), node('s', "", "a", 1)}, [][]int{{1}, nil}},
	{"[1,2]", []jtree.Node{node('[', "", "", 3), node('n', "", "1", 1), node('n', "", "2", 1)}, [][]int{{1, 2}, nil, nil}},
	{"[2,1,2,1,2]", []jtree.Node{node('[', "", "", 6), node('n', "", "2", 1), node('n', "", "1", 1), node('n', "", "2", 1), node('n', "", "1", 1), node('n', "", "2", 1)}, [][]int{{1, 2, 3, 4, 5}, nil, nil, nil, nil, nil}},
	{`{"a":false}`, []jtree.Node{node('{', "", "", 2), node('f', "a", "", 1)}, [][]int{{1}, nil}},
	{`{"a":"b"}`, []jtree.Node{node('{', "", "", 2), node('s', "a", "b", 1)}, [][]int{{1}, nil}},
	{`{"a":"a"}`, []jtree.Node{node('{', "", "", 2), node('s', "a", "a", 1)}, [][]int{{1}, nil}},
	{`{"b":1,"a":2}`, []jtree.Node{node('{', "", "", 3), node('n', "b", "1", 1), node('n', "a", "2", 1)}, [][]int{{1, 2}, nil, nil}},
	{`{"c":1,"a":"c","b":null,"d":-1.0}`, []jtree.Node{node('{', "", "", 5), node('n', "c", "1", 1), node('s', "a", "c", 1), node('z', "b", "", 1), node('n', "d", "-1.0", 1)}, [][]int{{1, 2, 3, 4}, nil, nil, nil, nil}},
	// Lists in lists, and objects in objects.
	{"[[]]", []jtree.Node{node('[', "", "", 2), node('[', "", "", 1)}, [][]int{{1}, nil}},
	{"[[],[]]", []jtree.Node{node('[', "", "", 3), node('[', "", "", 1), node('[', "", "", 1)}, [][]int{{1, 2}, nil, nil}},
	{"[[[]],[],3]", []jtree.Node{node('[', "", "", 5), node('[', "", "", 2), node('[', "", "", 1), node('[', "", "", 1), node('n', "", "3", 1)}, [][]int{{1, 3, 4}, {2}, nil, nil, nil}},
	{"[[1,[2]],[[3],4]]", []jtree.Node{node('[', "", "", 9), node('[', "", "", 4), node('n', "", "1", 1), node('[', "", "", 2), node('n', "", "2", 1), node('[', "", "", 4), node('[', "", "", 2), node('n', "", "3", 1), node('n', "", "4", 1)}, [][]int{{1, 5}, {2, 3}, nil, {4}, nil, {6, 8}, {7}, nil, nil}},
	{`{"a":{}}`, []jtree.Node{node('{', "", "", 2), node('{', "a", "", 1)}, [][]int{{1}, nil}},
	{`{"a":{"b":{"c":1}},"d":{}}`, []jtree.Node{node('{', "", "", 5), node('{', "a", "", 3), node('{', "b", "", 2), node('n', "c", "1", 1), node('{', "d", "", 1)}, [][]int{{1, 4}, {2}, {3}, nil, nil}},
	// Lists in objects, and objects in lists.
	{"[{}]", []jtree.Node{node('[', "", "", 2), node('{', "", "", 1)}, [][]int{{1}, nil}},
	{`{"a":[]}`, []jtree.Node{node('{', "", "", 2), node('[', "a", "", 1)}, [][]int{{1}, nil}},
	{`[{"a":1},{"a":2}]`, []jtree.Node{node('[', "", "", 5), node('{', "", "", 2), node('n', "a", "1", 1), node('{', "", "", 2), node('n', "a", "2", 1)}, [][]int{{1, 3}, {2}, nil, {4}, nil}},
	{`{"a":[{"b":[0,{}]},[]],"c":[[{}]]}`, []jtree.Node{node('{', "", "", 10), node('[', "a", "", 6), node('{', "", "", 4), node('[', "b", "", 3), node('n', "", "0", 1), node('{', "", "", 1), node('[', "", "", 1), node('[', "c", "", 3), node('[', "", "", 2), node('{', "", "", 1)}, [][]int{{1, 7}, {2, 6}, {3}, {4, 5}, nil, nil, nil, {8}, {9}, nil}},
	// Keys with nothing in them, with escapes, and the same one in two objects.
	{`{"":""}`, []jtree.Node{node('{', "", "", 2), node('s', "", "", 1)}, [][]int{{1}, nil}},
	{`{"":{"":0}}`, []jtree.Node{node('{', "", "", 3), node('{', "", "", 2), node('n', "", "0", 1)}, [][]int{{1}, {2}, nil}},
	{`{"\"\n\u20ac":"\\"}`, []jtree.Node{node('{', "", "", 2), node('s', "\"\n\xe2\x82\xac", `\`, 1)}, [][]int{{1}, nil}},
	{`{"a":{"a":{"a":0}}}`, []jtree.Node{node('{', "", "", 4), node('{', "a", "", 3), node('{', "a", "", 2), node('n', "a", "0", 1)}, [][]int{{1}, {2}, {3}, nil}},
	{`{"x":{"a":1},"a":{"x":{"a":2}}}`, []jtree.Node{node('{', "", "", 6), node('{', "x", "", 2), node('n', "a", "1", 1), node('{', "a", "", 3), node('{', "x", "", 2), node('n', "a", "2", 1)}, [][]int{{1, 3}, {2}, nil, {4}, {5}, nil}},
	{`{"a":{"b":1},"b":{"a":1}}`, []jtree.Node{node('{', "", "", 5), node('{', "a", "", 2), node('n', "b", "1", 1), node('{', "b", "", 2), node('n', "a", "1", 1)}, [][]int{{1, 3}, {2}, nil, {4}, nil}},
	// A key is its value's alone: neither the object's, nor a list's values', nor that of what stands behind.
	{`[{"a":[1]},2]`, []jtree.Node{node('[', "", "", 5), node('{', "", "", 3), node('[', "a", "", 2), node('n', "", "1", 1), node('n', "", "2", 1)}, [][]int{{1, 4}, {2}, {3}, nil, nil}},
}

// fault is a text that is no tree, and the error of that.
type fault struct {
	s    string
	code api.Code
}

// going are texts that are wrong with their last token, whatever stands behind that, if a blank does.
var going = []fault{
	// Tokens that can't be.
	{"?", api.ErrForm},
	{"trup", api.ErrForm},
	{"[+1", api.ErrForm},
	{"[1,-x", api.ErrForm},
	{"[1.,", api.ErrForm},
	{"[1 ?", api.ErrForm},
	{`{"a` + "\n", api.ErrForm},
	{`{'a'`, api.ErrForm},
	{`{"a":1,a`, api.ErrForm},
	{`{"a":nul,`, api.ErrForm},
	{"\"\xff", api.ErrText},
	{"[\"\xc0\x80", api.ErrText},
	{"{\"\xed\xa0\x80", api.ErrText},
	{"{\"a\":\"\x80", api.ErrText},
	{`"\x`, api.ErrEscape},
	{`["a","\u00g`, api.ErrEscape},
	{`{"\ude00"`, api.ErrEscape},
	{`{"a":"\ud83d"`, api.ErrEscape},
	// Such ones that could not stand there either.
	{"{\"a\" \"\xff", api.ErrText},
	{`[1 "\x`, api.ErrEscape},
	{`{"a":1 "\x`, api.ErrEscape},
	// A value that lacks.
	{"]", api.ErrForm},
	{"}", api.ErrForm},
	{":", api.ErrForm},
	{",", api.ErrForm},
	{"[,", api.ErrForm},
	{"[:", api.ErrForm},
	{"[}", api.ErrForm},
	{"[1,]", api.ErrForm},
	{"[1,,", api.ErrForm},
	{"[1,}", api.ErrForm},
	{"[1,:", api.ErrForm},
	{`{"a":,`, api.ErrForm},
	{`{"a"::`, api.ErrForm},
	{`{"a":}`, api.ErrForm},
	{`{"a":]`, api.ErrForm},
	// A comma that lacks, or an end that is the other one's.
	{"[1 2", api.ErrForm},
	{`["a" "b"`, api.ErrForm},
	{"[1 true", api.ErrForm},
	{"[1:", api.ErrForm},
	{"[1}", api.ErrForm},
	{"[1 [", api.ErrForm},
	{"[[] [", api.ErrForm},
	{"[[}", api.ErrForm},
	{"[[]}", api.ErrForm},
	{"[1 {", api.ErrForm},
	{`{"a":1 "b"`, api.ErrForm},
	{`{"a":1 2`, api.ErrForm},
	{`{"a":1:`, api.ErrForm},
	{`{"a":1]`, api.ErrForm},
	{`{"a":1 {`, api.ErrForm},
	{`{"a":1 [`, api.ErrForm},
	{`{"a":[]]`, api.ErrForm},
	{`{"a":{]`, api.ErrForm},
	{`{"a":{}]`, api.ErrForm},
	// A key that lacks, or is no text.
	{"{]", api.ErrForm},
	{"{:", api.ErrForm},
	{"{,", api.ErrForm},
	{"{{", api.ErrForm},
	{"{[", api.ErrForm},
	{"{1", api.ErrForm},
	{"{true", api.ErrForm},
	{"{false", api.ErrForm},
	{"{null", api.ErrForm},
	{`{"a":1,}`, api.ErrForm},
	{`{"a":1,,`, api.ErrForm},
	{`{"a":1,:`, api.ErrForm},
	{`{"a":1,]`, api.ErrForm},
	{`{"a":1,1`, api.ErrForm},
	{`{"a":1,null`, api.ErrForm},
	{`{"a":1,{`, api.ErrForm},
	{`{"a":1,[`, api.ErrForm},
	// A colon that lacks.
	{`{"a"}`, api.ErrForm},
	{`{"a",`, api.ErrForm},
	{`{"a"]`, api.ErrForm},
	{`{"a"[`, api.ErrForm},
	{`{"a"{`, api.ErrForm},
	{`{"a" 1`, api.ErrForm},
	{`{"a" "b"`, api.ErrForm},
	{`{"a" true`, api.ErrForm},
	{`{"a":1,"b"}`, api.ErrForm},
	{`{"a":1,"b",`, api.ErrForm},
	// A key that was there.
	{`{"a":1,"a"`, api.ErrTwice},
	{`{"":1,""`, api.ErrTwice},
	{`{"a":1,"b":2,"a"`, api.ErrTwice},
	{`{"b":1,"a":2,"a"`, api.ErrTwice},
	{`{"a":1,"\u0061"`, api.ErrTwice},
	{`{"\u0061":1,"a"`, api.ErrTwice},
	{`{"a":{"b":1},"a"`, api.ErrTwice},
	{`{"a":[{"a":1}],"a"`, api.ErrTwice},
	{`{"a":{"a":1,"a"`, api.ErrTwice},
	{`{"b":{"a":1},"a":2,"b"`, api.ErrTwice},
	{`[{"a":1},{"a":1,"a"`, api.ErrTwice},
	// Too deep.
	{deep(33, "["), api.ErrDeep},
	{deep(33, "{"), api.ErrDeep},
	{deep(33, "[", "{"), api.ErrDeep},
	{"[1,{},[[]]," + deep(32, "{"), api.ErrDeep},
	{`{"a":1,"b":` + deep(32, "["), api.ErrDeep},
	// Behind the value.
	{"1 2", api.ErrTail},
	{"1,", api.ErrTail},
	{"null null", api.ErrTail},
	{`"a""a"`, api.ErrTail},
	{`"a":`, api.ErrTail},
	{"[]]", api.ErrTail},
	{"{}}", api.ErrTail},
	{"[] [", api.ErrTail},
	{"[1],", api.ErrTail},
	{`{"a":1}:`, api.ErrTail},
	{`{"a":1}{`, api.ErrTail},
	{"1?", api.ErrTail},
	{"[]\x00", api.ErrTail},
	{"[1]tru", api.ErrTail},
	{"{}\"\xff", api.ErrTail},
	{`null "\x`, api.ErrTail},
	{"1 -x", api.ErrTail},
	{"01", api.ErrTail},
	{"0x1", api.ErrTail},
	{"truee", api.ErrTail},
	{"1//", api.ErrTail},
}

// cuts are texts that need more, and the error of such a one at the end of the bytes.
var cuts = []fault{
	{"", api.ErrCut},
	{" ", api.ErrCut},
	{"\t\n\r ", api.ErrCut},
	{"[", api.ErrCut},
	{"[1", api.ErrCut},
	{"[1,", api.ErrCut},
	{"[1,2", api.ErrCut},
	{"[[", api.ErrCut},
	{"[[]", api.ErrCut},
	{"[[],", api.ErrCut},
	{"[{", api.ErrCut},
	{"[{}", api.ErrCut},
	{"{", api.ErrCut},
	{`{"a"`, api.ErrCut},
	{`{"a":`, api.ErrCut},
	{`{"a":1`, api.ErrCut},
	{`{"a":1,`, api.ErrCut},
	{`{"a":1,"b"`, api.ErrCut},
	{`{"a":1,"b":`, api.ErrCut},
	{`{"a":[`, api.ErrCut},
	{`{"a":[]`, api.ErrCut},
	{`{"a":{`, api.ErrCut},
	{`{"a":{}`, api.ErrCut},
	{deep(32, "["), api.ErrCut},
	{deep(32, "{"), api.ErrCut},
	{deep(32, "{", "["), api.ErrCut},
	// Within a token.
	{"tru", api.ErrCut},
	{`"`, api.ErrCut},
	{`"a`, api.ErrCut},
	{`"\`, api.ErrCut},
	{"-", api.ErrCut},
	{"1.", api.ErrCut},
	{"1e", api.ErrCut},
	{"[nul", api.ErrCut},
	{"[1,-", api.ErrCut},
	{`{"`, api.ErrCut},
	{`{"a\u00`, api.ErrCut},
	{`{"a":1,"a`, api.ErrCut},
	{`{"a":fals`, api.ErrCut},
	{"[\"\xe2\x82", api.ErrText},
	// Within one that could not stand there either.
	{"[1 nul", api.ErrCut},
	{"[1 1.", api.ErrCut},
	{`{"a" "b`, api.ErrCut},
	{"{tru", api.ErrCut},
	{"{1e", api.ErrCut},
}

// deep tells so many signs of lists and objects one within the other, in turns, with a key ahead of what stands in an
// object.
func deep(many int, signs ...string) string {
	var s strings.Builder
	for i := range many {
		if i > 0 && signs[(i-1)%len(signs)] == "{" {
			s.WriteString(`"a":`)
		}
		s.WriteString(signs[i%len(signs)])
	}
	return s.String()
}

// closed tells what stands behind so many signs to end them.
func closed(many int, signs ...string) string {
	ends := map[string]string{"[": "]", "{": "}"}
	var s strings.Builder
	for i := many - 1; i >= 0; i-- {
		s.WriteString(ends[signs[i%len(signs)]])
	}
	return s.String()
}

// Where the reader that is made apart from the code stands, and the kinds of tokens that may stand there.
const (
	atValue = iota
	atFirstValue
	atKey
	atFirstKey
	atColon
	behindValue
	behindMember
	behindAll
)

var may = []string{atValue: "{[sntfz", atFirstValue: "{[sntfz]", atKey: "s", atFirstKey: "s}", atColon: ":", behindValue: ",]", behindMember: ",}"}

// model is such a reader: it goes from token to token, with the places of what is open in a list.
type model struct {
	l     []jtree.Node
	kids  [][]int
	open  []int
	keys  [][]string
	key   string
	state int
}

// meant tells the tree of s, and the places of each node's kids; or what is wrong.
func meant(s string) ([]jtree.Node, [][]int, api.Code) {
	var m model
	c := cursor.New(s)
	for m.state != behindAll {
		t := jtoken.Next(c)
		if c.Err() != api.OK {
			return nil, nil, c.Err()
		}
		if t.Kind == 0 {
			return nil, nil, api.ErrCut
		}
		if code := m.step(t); code != api.OK {
			return nil, nil, code
		}
	}
	if strings.Trim(s[c.At():], " \t\n\r") != "" {
		return nil, nil, api.ErrTail
	}
	return m.l, m.kids, api.OK
}

func (m *model) step(t jtoken.Token) api.Code {
	switch {
	case !strings.Contains(may[m.state], string(rune(t.Kind))):
		return api.ErrForm
	case strings.Contains("[{", string(rune(t.Kind))) && len(m.open) == 32:
		return api.ErrDeep
	case t.Kind == ']' || t.Kind == '}':
		m.open, m.keys = m.open[:len(m.open)-1], m.keys[:len(m.keys)-1]
		m.behind()
	case t.Kind == ':':
		m.state = atValue
	case t.Kind == ',':
		m.state = map[int]int{behindValue: atValue, behindMember: atKey}[m.state]
	case m.state == atKey || m.state == atFirstKey:
		have := &m.keys[len(m.keys)-1]
		if slices.Contains(*have, t.Text) {
			return api.ErrTwice
		}
		*have = append(*have, t.Text)
		m.key, m.state = t.Text, atColon
	default:
		m.add(t)
	}
	return api.OK
}

func (m *model) add(t jtoken.Token) {
	at := len(m.l)
	m.l = append(m.l, node(t.Kind, m.key, t.Text, 1))
	m.kids = append(m.kids, nil)
	m.key = ""
	for _, up := range m.open {
		m.l[up].Size++
	}
	if few := len(m.open); few > 0 {
		up := m.open[few-1]
		m.kids[up] = append(m.kids[up], at)
	}
	if first := map[byte]int{'[': atFirstValue, '{': atFirstKey}[t.Kind]; first != 0 {
		m.open, m.keys, m.state = append(m.open, at), append(m.keys, nil), first
		return
	}
	m.behind()
}

func (m *model) behind() {
	if len(m.open) == 0 {
		m.state = behindAll
		return
	}
	m.state = map[byte]int{'[': behindValue, '{': behindMember}[m.l[m.open[len(m.open)-1]].Kind]
}

// short tells a text by its beginning and its end, if it is long.
func short(s string) string {
	if len(s) > 100 {
		return fmt.Sprintf("%q .. %q (%d bytes)", s[:50], s[len(s)-40:], len(s))
	}
	return fmt.Sprintf("%q", s)
}

// wantRead reads s, and holds what is told against l, or against what is wrong.
func wantRead(t *testing.T, s string, l []jtree.Node, want api.Code) {
	t.Helper()
	got, code := jtree.Read(s)
	if code != want || !slices.Equal(got, l) {
		t.Errorf("%s: %s, %d; want %s, %d", short(s), short(fmt.Sprint(got)), code, short(fmt.Sprint(l)), want)
	}
}

// wantLike holds what is read of s against what is made apart.
func wantLike(t *testing.T, s string) {
	t.Helper()
	l, _, code := meant(s)
	wantRead(t, s, l, code)
}

// wantKids holds the kids of each place of l, and of places where there is none, against those that are meant.
func wantKids(t *testing.T, l []jtree.Node, kids [][]int) {
	t.Helper()
	for at := range l {
		if got := jtree.Kids(l, at); !slices.Equal(got, kids[at]) {
			t.Errorf("kids at %d of %s: %v, want %v", at, short(fmt.Sprint(l)), got, kids[at])
		}
	}
	for _, at := range []int{-1, -2, -len(l), -len(l) - 1, len(l), len(l) + 1, 2*len(l) + 1, math.MinInt, math.MaxInt, math.MaxInt - 1, math.MinInt32, math.MaxInt32} {
		if at >= 0 && at < len(l) {
			continue
		}
		if got := jtree.Kids(l, at); len(got) != 0 {
			t.Errorf("kids at %d of %s: %v, want none", at, short(fmt.Sprint(l)), got)
		}
	}
}

// wantPut lays l behind b.
func wantPut(t *testing.T, b []byte, l []jtree.Node, want string) {
	t.Helper()
	if got := jtree.Put(b, l); string(got) != string(b)+want {
		t.Errorf("%s behind %s: %s, want %s", short(fmt.Sprint(l)), short(string(b)), short(string(got)), short(string(b)+want))
	}
}

// parted tells a text's tokens as they stand in it, without blanks.
func parted(t *testing.T, s string) []string {
	t.Helper()
	var list []string
	c := cursor.New(s)
	for {
		from := c.At()
		if jtoken.Next(c).Kind == 0 {
			break
		}
		list = append(list, strings.Trim(s[from:c.At()], " \t\n\r"))
	}
	if c.End() != api.OK {
		t.Fatalf("%q has other things than tokens", s)
	}
	return list
}

// laid tells what is laid of the tree of s: its tokens as jtoken lays them, one by one.
func laid(t *testing.T, s string) string {
	t.Helper()
	list, code := jtoken.All(s)
	if code != api.OK {
		t.Fatalf("%q has other things than tokens", s)
	}
	var all []byte
	for _, token := range list {
		all = append(all, jtoken.Put(nil, token)...)
	}
	return string(all)
}

// What the tests hold the program against is itself what is written out.
func TestMeant(t *testing.T) {
	for _, one := range trees {
		l, kids, code := meant(" " + one.s + "\n")
		if !slices.Equal(l, one.l) || !reflect.DeepEqual(kids, one.kids) || code != api.OK {
			t.Errorf("%q: %v, %v, %d", one.s, l, kids, code)
		}
	}
	for _, one := range leaves {
		if l, kids, code := meant(one.s); !slices.Equal(l, []jtree.Node{one.node}) || !reflect.DeepEqual(kids, [][]int{nil}) || code != api.OK {
			t.Errorf("%q: %v, %v, %d", one.s, l, kids, code)
		}
	}
	for _, one := range slices.Concat(going, cuts) {
		if l, kids, code := meant(one.s); len(l) != 0 || len(kids) != 0 || code != one.code {
			t.Errorf("%q: %v, %v, %d, want %d", one.s, l, kids, code, one.code)
		}
	}
}

// 13.1, 13.2: trees written out, with blanks around them and without.
func TestReadWritten(t *testing.T) {
	for _, one := range trees {
		wantRead(t, one.s, one.l, api.OK)
		for _, space := range blanks {
			wantRead(t, space+one.s, one.l, api.OK)
			wantRead(t, one.s+space, one.l, api.OK)
		}
	}
}

// 13.1, 13.2: each value without kids, alone, as a list's and as a member's, with its Kind and its Text, the key, and the
// Size 1.
func TestReadLeaves(t *testing.T) {
	for _, one := range leaves {
		under := func(key string) jtree.Node {
			n := one.node
			n.Key = key
			return n
		}
		wantRead(t, one.s, []jtree.Node{one.node}, api.OK)
		wantRead(t, " "+one.s+" ", []jtree.Node{one.node}, api.OK)
		wantRead(t, "["+one.s+"]", []jtree.Node{node('[', "", "", 2), one.node}, api.OK)
		wantRead(t, "["+one.s+","+one.s+"]", []jtree.Node{node('[', "", "", 3), one.node, one.node}, api.OK)
		wantRead(t, "[[],"+one.s+",{}]", []jtree.Node{node('[', "", "", 4), node('[', "", "", 1), one.node, node('{', "", "", 1)}, api.OK)
		for _, k := range keys {
			wantRead(t, "{"+k.s+":"+one.s+"}", []jtree.Node{node('{', "", "", 2), under(k.text)}, api.OK)
			wantRead(t, "[{"+k.s+":"+one.s+`,"k":`+one.s+"},"+one.s+"]", []jtree.Node{node('[', "", "", 5), node('{', "", "", 3), under(k.text), under("k"), one.node}, api.OK)
		}
	}
}

// 13.1: lists and objects of few and of many, whose sizes count all that is within.
func TestReadMany(t *testing.T) {
	for _, many := range []int{1, 2, 3, 5, 31, 32, 33, 34, 100, 255, 256, 257, 20000} {
		list := []jtree.Node{node('[', "", "", many+1)}
		object := []jtree.Node{node('{', "", "", many+1)}
		both := []jtree.Node{node('[', "", "", 3*many+1)}
		var values, members, pairs []string
		for i := range many {
			n := strconv.Itoa(i)
			list = append(list, node('n', "", n, 1))
			object = append(object, node('s', "k"+n, n, 1))
			both = append(both, node('{', "", "", 3), node('[', "a", "", 1), node('n', "b", n, 1))
			values, members, pairs = append(values, n), append(members, `"k`+n+`":"`+n+`"`), append(pairs, `{"a":[],"b":`+n+"}")
		}
		wantRead(t, "["+strings.Join(values, ",")+"]", list, api.OK)
		wantRead(t, "{"+strings.Join(members, ",")+"}", object, api.OK)
		wantRead(t, "["+strings.Join(pairs, " , ")+"]", both, api.OK)
		wantRead(t, "["+strings.Join(values, ","), nil, api.ErrCut)
		wantRead(t, "["+strings.Join(values, ",")+",]", nil, api.ErrForm)
		wantRead(t, "{"+strings.Join(members, ",")+"]", nil, api.ErrForm)
		wantRead(t, "{"+strings.Join(members, ",")+`,"k0"`, nil, api.ErrTwice)
		wantRead(t, "{"+strings.Join(members, ",")+`,"\u006b`+strconv.Itoa(many-1)+`"`, nil, api.ErrTwice)
	}
}

// 13.1, 13.2: blanks at each place where they may stand change nothing; what looks like one, or is a remark, can stand at
// none of them.
func TestReadBlanks(t *testing.T) {
	for _, one := range trees {
		tokens := parted(t, one.s)
		for _, space := range blanks {
			wantRead(t, strings.Join(tokens, space), one.l, api.OK)
			wantRead(t, space+strings.Join(tokens, space)+space, one.l, api.OK)
			for at := 0; at <= len(tokens); at++ {
				wantRead(t, strings.Join(tokens[:at], "")+space+strings.Join(tokens[at:], ""), one.l, api.OK)
			}
		}
		for at := 0; at <= len(tokens); at++ {
			for _, none := range []string{"\x00", "\x0b", "\x0c", "\x1f", "\x80", "\xa0", "\xc2\x85", "\xc2\xa0", "\xe2\x80\xa8", "\xef\xbb\xbf", "/**/", "//\n", "#\n", ";"} {
				want := api.ErrForm
				if at == len(tokens) {
					want = api.ErrTail
				}
				wantRead(t, strings.Join(tokens[:at], " ")+none+strings.Join(tokens[at:], " "), nil, want)
				wantRead(t, strings.Join(tokens[:at], " ")+" "+none+" "+strings.Join(tokens[at:], " "), nil, want)
			}
		}
	}
}

// 13.1, 13.2: all of up to eight tokens, out of those that matter, that may go on, and each token behind these.
func TestReadOfTokens(t *testing.T) {
	list := []string{""}
	for range 8 {
		var longer []string
		for _, s := range list {
			for _, token := range []string{"{", "}", "[", "]", ":", ",", `"a"`, `"b"`, "1"} {
				next := s + token
				_, _, code := meant(next)
				if code == api.ErrCut {
					longer = append(longer, next)
				}
				if wantLike(t, next); t.Failed() {
					return
				}
				if code == api.OK {
					l, kids, _ := meant(next)
					wantKids(t, l, kids)
					wantPut(t, []byte("b"), l, next)
				}
			}
		}
		list = longer
	}
	if len(list) < 1000 {
		t.Errorf("%d of eight tokens", len(list))
	}
}

// 13.2: all of up to four tokens of each kind, whether what stands ahead can go on or not.
func TestReadOfFew(t *testing.T) {
	list := []string{""}
	for range 4 {
		var longer []string
		for _, s := range list {
			for _, token := range []string{"{", "}", "[", "]", ":", ",", `"a"`, `"\u0061"`, "0", "-1.5e1", "true", "false", "null", "?", `"\x"`} {
				longer = append(longer, s+" "+token)
			}
		}
		list = longer
		for _, s := range list {
			if wantLike(t, s); t.Failed() {
				return
			}
		}
	}
}

// 13.2: what is wrong whatever stands behind it, alone and with more: its error, and no nodes. Of two errors the first one.
func TestReadFirst(t *testing.T) {
	for _, one := range going {
		wantRead(t, one.s, nil, one.code)
		for _, space := range blanks {
			wantRead(t, space+one.s+space, nil, one.code)
		}
		for _, behind := range []string{"1", "null", `"a"`, `"`, "[", "]", "{", "}", ":", ",", "]]]", "}}}", ":1}", ",1]", "?", "\x00", "\xff", "\"\xff\"", `"\x"`, "tru", "trup", "1.", "-", deep(40, "["), deep(40, "{"), `{"a":1,"a":2}`, closed(33, "["), closed(33, "{", "[")} {
			wantRead(t, one.s+" "+behind, nil, one.code)
		}
		for _, other := range slices.Concat(going, cuts) {
			wantRead(t, one.s+" "+other.s, nil, one.code)
			wantRead(t, one.s+" ,"+other.s, nil, one.code)
		}
	}
}

// 13.2: each of these within lists and objects: the same error, but behind a value, where more may stand then.
func TestReadWithin(t *testing.T) {
	for _, ahead := range []string{"[", "[[", "[1,", "[{},[2,", `{"b":`, `[{"a":1,"b":`, `{"a":{"a":{"a":`, `{"c":[{"a":1,"b":2}],"b":[null,`} {
		for _, one := range slices.Concat(going, cuts) {
			switch {
			case one.code == api.ErrTail || one.s == "]":
				wantLike(t, ahead+one.s)
			case strings.Count(one.s, "[")+strings.Count(one.s, "{") >= 32:
				wantRead(t, ahead+one.s, nil, api.ErrDeep)
			default:
				wantRead(t, ahead+one.s, nil, one.code)
			}
			wantLike(t, ahead+one.s+" ]")
			wantLike(t, ahead+one.s+" }")
		}
	}
}

// 13.2: what needs more is cut, with blanks behind it, too.
func TestReadCuts(t *testing.T) {
	for _, one := range cuts {
		wantRead(t, one.s, nil, one.code)
		for _, space := range blanks {
			wantRead(t, space+one.s, nil, one.code)
			wantLike(t, one.s+space)
		}
	}
	for _, space := range blanks {
		wantRead(t, space, nil, api.ErrCut)
		for _, s := range []string{"[", "[1", "[1,", "{", `{"a"`, `{"a":`, `{"a":1`, `{"a":1,`} {
			wantRead(t, s+space, nil, api.ErrCut)
		}
	}
}

// 13.2: each tree cut behind each of its tokens, and within them.
func TestReadFronts(t *testing.T) {
	for _, one := range trees {
		tokens := parted(t, one.s)
		for few := range tokens {
			for _, space := range []string{"", " ", "\r\n"} {
				wantRead(t, strings.Join(tokens[:few], space)+space, nil, api.ErrCut)
			}
		}
		for few := range len(one.s) {
			wantLike(t, one.s[:few])
			if _, code := jtree.Read(one.s[:few]); code == api.OK {
				t.Errorf("%q is a tree without its end", one.s[:few])
			}
		}
	}
	for _, one := range leaves {
		for few := range len(one.s) {
			wantLike(t, one.s[:few])
			wantLike(t, "["+one.s[:few])
			wantLike(t, `{"a":`+one.s[:few])
		}
	}
	for _, k := range keys {
		for few := range len(k.s) {
			wantLike(t, "{"+k.s[:few])
			wantLike(t, `{"x":1,`+k.s[:few])
		}
	}
}

// 13.2: each token, and what is none, at each place of trees: between two tokens, and in the place of one; and each token
// left out, doubled, or with the next one in its place.
func TestReadOthers(t *testing.T) {
	others := []string{"{", "}", "[", "]", ":", ",", `"a"`, `"x"`, "7", "true", "false", "null", "?", "\xff", `"\x"`, "-", "tru"}
	for _, one := range trees {
		tokens := parted(t, one.s)
		for at := 0; at <= len(tokens); at++ {
			for _, other := range others {
				wantLike(t, strings.Join(slices.Insert(slices.Clone(tokens), at, other), " "))
				if at < len(tokens) {
					changed := slices.Clone(tokens)
					changed[at] = other
					wantLike(t, strings.Join(changed, " "))
				}
			}
			if at < len(tokens) {
				wantLike(t, strings.Join(slices.Delete(slices.Clone(tokens), at, at+1), " "))
				wantLike(t, strings.Join(slices.Insert(slices.Clone(tokens), at, tokens[at]), " "))
			}
			if at+1 < len(tokens) {
				turned := slices.Clone(tokens)
				turned[at], turned[at+1] = turned[at+1], turned[at]
				wantLike(t, strings.Join(turned, " "))
			}
		}
	}
}

// 13.2: each byte at the beginning, behind the signs, behind a value, and behind all of it.
func TestReadEachByte(t *testing.T) {
	for i := range 256 {
		b := string([]byte{byte(i)})
		blank := strings.Contains(" \t\n\r", b)
		for _, s := range []string{"", "[", "[1", "[1,", "[]", "[[]", "{", `{"a"`, `{"a":`, `{"a":1`, `{"a":1,`, `{"a":1}`, `{"a":{}`, "true", `""`, "1 "} {
			wantLike(t, s+b)
			wantLike(t, s+" "+b)
			wantLike(t, s+b+"1]")
			wantLike(t, s+b+`"b":1}`)
		}
		for _, s := range []string{"[]", "{}", "[1]", `{"a":1}`, "null", `"a"`, "1 "} {
			if blank {
				l, _, _ := meant(s)
				wantRead(t, s+b, l, api.OK)
				wantRead(t, s+b+b, l, api.OK)
				wantRead(t, s+b+"1", nil, api.ErrTail)
				continue
			}
			wantRead(t, s+b, nil, api.ErrTail)
			wantRead(t, s+" "+b+" ", nil, api.ErrTail)
		}
	}
}

// 13.2: behind each value anything but blanks is ErrTail, whether it is a token or not.
func TestReadTail(t *testing.T) {
	for _, one := range trees {
		for _, tail := range []string{"1", "true", "null", `""`, "[", "]", "{", "}", ":", ",", "[]", "{}", "?", "tru", "trup", `"`, "\"\xff\"", `"\x"`, "-", "1.x", "\x00", "\xff", "\x0b", "\xef\xbb\xbf", "/**/", one.s, deep(33, "["), `{"a":1,"a":2}`} {
			wantRead(t, one.s+tail, nil, api.ErrTail)
			wantRead(t, one.s+" \n"+tail+" ", nil, api.ErrTail)
		}
	}
	for _, one := range leaves {
		for _, other := range leaves {
			wantRead(t, one.s+" "+other.s, nil, api.ErrTail)
		}
		for _, sign := range []string{"[", "]", "{", "}", ":", ","} {
			wantRead(t, one.s+sign, nil, api.ErrTail)
		}
	}
}

// 13.2: a key that one ahead of it has in its object, in each way to write it: ErrTwice, whatever stands behind; keys that
// differ, and the same one in another object, are none of that.
func TestReadTwice(t *testing.T) {
	behinds := []string{"", " ", ":", ":1", ":1}", ":1,", "}", "]", ",", "1", `"a"`, "[", "?", "\xff", `"\x"`, "tru", ":" + deep(40, "["), `:1,"a":2}`, ":1}}"}
	for _, same := range [][]string{
		{`"a"`, `"\u0061"`},
		{`""`},
		{`"/"`, `"\/"`, `"\u002f"`, `"\u002F"`},
		{`"\n"`, `"\u000a"`, `"\u000A"`},
		{`"\""`, `"\u0022"`},
		{`"\\"`, `"\u005c"`, `"\u005C"`},
		{"\"\xe2\x82\xac\"", `"\u20ac"`, `"\u20AC"`},
		{"\"\xf0\x9f\x98\x80\"", `"\ud83d\ude00"`, `"\uD83D\uDE00"`},
		{`"aA"`, `"\u0061A"`, `"a\u0041"`, `"\u0061\u0041"`},
		{`"` + strings.Repeat("k", 5000) + `"`, `"` + strings.Repeat(`\u006b`, 5000) + `"`},
	} {
		for _, one := range same {
			for _, other := range same {
				for _, behind := range behinds {
					wantRead(t, "{"+one+":1,"+other+behind, nil, api.ErrTwice)
					wantRead(t, "{ "+one+" : {} , "+other+" "+behind, nil, api.ErrTwice)
					wantRead(t, `{"x":0,`+one+`:1,"y":2,`+other+behind, nil, api.ErrTwice)
					wantRead(t, "{"+one+":{"+one+":[]},"+other+behind, nil, api.ErrTwice)
					wantRead(t, "[{"+one+":1},{"+one+":1,"+other+behind, nil, api.ErrTwice)
					wantRead(t, `{"x":{"y":[{`+one+":1,"+other+behind, nil, api.ErrTwice)
				}
				for _, fine := range []string{
					"{" + one + ":{" + other + ":1}}",
					"{" + one + ":[{" + other + ":1},{" + one + ":{" + other + ":1}}]}",
					"[{" + one + ":1},{" + other + ":1}]",
					`{"x":{` + one + `:1},"y":{` + other + ":1}}",
					"{" + one + ":" + other + "}",
					`{"x":` + one + "," + other + ":1}",
					`{"x":{` + one + ":1}," + other + ":1}",
				} {
					l, _, code := meant(fine)
					if code != api.OK {
						t.Fatalf("%q is meant as %d", fine, code)
					}
					wantRead(t, fine, l, api.OK)
				}
			}
		}
	}
	for i, one := range keys {
		for j, other := range keys {
			if i == j {
				continue
			}
			wantRead(t, "{"+one.s+":1,"+other.s+":2}", []jtree.Node{node('{', "", "", 3), node('n', one.text, "1", 1), node('n', other.text, "2", 1)}, api.OK)
		}
	}
}

// 13.2: lists and objects within MaxDeep - 1, MaxDeep and MaxDeep + 1 others, of one sort and of both, open only and
// closed again.
func TestReadDeep(t *testing.T) {
	if api.MaxDeep != 32 {
		t.Fatal(api.MaxDeep)
	}
	for _, signs := range [][]string{{"["}, {"{"}, {"[", "{"}, {"{", "["}, {"[", "[", "{"}, {"{", "{", "[", "["}} {
		for _, many := range []int{1, 2, 31, 32, 33, 34, 35, 64, 100, 1000} {
			open, whole := api.ErrCut, api.OK
			if many > 32 {
				open, whole = api.ErrDeep, api.ErrDeep
			}
			s := deep(many, signs...)
			wantRead(t, s, nil, open)
			wantRead(t, s+" ", nil, open)
			wantLike(t, s+closed(many, signs...))
			if l, code := jtree.Read(s + closed(many, signs...)); code != whole || code == api.OK && len(l) != many {
				t.Errorf("%d of %v: %v, %d", many, signs, l, code)
			}
			for few := range min(many, 40) {
				wantLike(t, s+closed(few, signs...))
			}
		}
		// How many there are does not matter, nor what was closed ahead.
		for _, one := range []string{"[" + strings.Repeat("[],", 100) + "[]]", "[" + strings.Repeat("{},", 100) + "[]]", "[" + strings.Repeat(deep(31, signs...)+closed(31, signs...)+",", 5) + "[]]"} {
			if _, code := jtree.Read(one); code != api.OK {
				t.Errorf("%s: %d", short(one), code)
			}
			wantLike(t, one)
		}
		wantRead(t, "["+strings.Repeat(deep(31, signs...)+closed(31, signs...)+",", 5)+deep(32, signs...), nil, api.ErrDeep)
		wantRead(t, "[1,2,"+deep(32, signs...), nil, api.ErrDeep)
		wantRead(t, `{"x":[[]],"y":`+deep(32, signs...), nil, api.ErrDeep)
	}
}

// 13.2: within MaxDeep others a [ or { is ErrDeep just where it might stand, whatever stands behind it; else ErrForm. All
// else may stand there as elsewhere.
func TestReadDeepest(t *testing.T) {
	for _, sign := range []string{"[", "{"} {
		for _, behind := range []string{"", " ", "]", "}", "]]", "1]", `"a":1}`, `"a":1,"a":2}`, "?", "\xff", "tru", `"\x"`, ",", ":", "[", "{", closed(33, "["), closed(33, "{")} {
			for _, at := range []struct {
				s    string
				want api.Code
			}{
				{deep(32, "["), api.ErrDeep},
				{deep(32, "[") + "1,", api.ErrDeep},
				{deep(31, "[") + "[],[", api.ErrDeep},
				{deep(32, "[") + "1", api.ErrForm},
				{deep(31, "[") + "[]", api.ErrForm},
				{deep(32, "{"), api.ErrForm},
				{deep(32, "{") + `"k"`, api.ErrForm},
				{deep(32, "{") + `"k":`, api.ErrDeep},
				{deep(32, "{") + `"k":1`, api.ErrForm},
				{deep(32, "{") + `"k":1,`, api.ErrForm},
				{deep(32, "{") + `"k":1,"l"`, api.ErrForm},
				{deep(32, "{") + `"k":1,"l":`, api.ErrDeep},
				{deep(31, "{") + `"k":{}`, api.ErrForm},
				{deep(31, "{") + `"k":{},"l":{"m":`, api.ErrDeep},
				{deep(32, "[") + closed(32, "["), api.ErrTail},
				{deep(32, "{") + closed(32, "{"), api.ErrTail},
			} {
				wantRead(t, at.s+sign+behind, nil, at.want)
			}
		}
	}
	for _, signs := range [][]string{{"["}, {"{", "["}} {
		for _, one := range leaves {
			s := deep(32, signs...) + one.s + "," + one.s + closed(32, signs...)
			if l, code := jtree.Read(s); code != api.OK || len(l) != 34 || l[32] != one.node || l[33] != one.node {
				t.Errorf("%s: %v, %d", short(s), l, code)
			}
		}
	}
	wantRead(t, deep(32, "{")+`"k":1,"k"`, nil, api.ErrTwice)
	wantRead(t, deep(32, "[")+",", nil, api.ErrForm)
	wantRead(t, deep(32, "[")+"?", nil, api.ErrForm)
	wantRead(t, strings.Repeat("[", 1000000), nil, api.ErrDeep)
	wantRead(t, strings.Repeat(`{"a":`, 1000000), nil, api.ErrDeep)
}

// 13.2: long tokens, and many blanks.
func TestReadLong(t *testing.T) {
	run := strings.Repeat("7", 100000)
	wantRead(t, run, []jtree.Node{node('n', "", run, 1)}, api.OK)
	wantRead(t, `"`+run+`"`, []jtree.Node{node('s', "", run, 1)}, api.OK)
	wantRead(t, `{"`+run+`":0}`, []jtree.Node{node('{', "", "", 2), node('n', run, "0", 1)}, api.OK)
	wantRead(t, `{"`+run+`":0,"`+run+`"`, nil, api.ErrTwice)
	wantRead(t, `{"`+run+`":0,"`+run+`7":1}`, []jtree.Node{node('{', "", "", 3), node('n', run, "0", 1), node('n', run+"7", "1", 1)}, api.OK)
	wantRead(t, run+".", nil, api.ErrCut)
	space := strings.Repeat(" ", 100000)
	wantRead(t, space, nil, api.ErrCut)
	wantRead(t, "["+space+"]"+space, []jtree.Node{node('[', "", "", 1)}, api.OK)
	wantRead(t, "["+space+"]"+space+"]", nil, api.ErrTail)
}

// 13.2 and R3: each answer of Read is a list of its own.
func TestReadApart(t *testing.T) {
	for _, one := range trees {
		first, _ := jtree.Read(one.s)
		second, _ := jtree.Read(one.s)
		for i := range first[:cap(first)] {
			first[:cap(first)][i] = node('X', "X", "X", -1)
		}
		if !slices.Equal(second, one.l) {
			t.Errorf("%q: %v changed with another answer", one.s, second)
		}
		wantRead(t, one.s, one.l, api.OK)
	}
}

// libraryTree tells the tree of a value as the library reads it.
func libraryTree(d *json.Decoder, key string) []jtree.Node {
	token, err := d.Token()
	if err != nil {
		panic(err)
	}
	switch x := token.(type) {
	case json.Delim:
		l := []jtree.Node{node(byte(x), key, "", 0)}
		for d.More() {
			under := ""
			if x == '{' {
				k, _ := d.Token()
				under = k.(string)
			}
			l = append(l, libraryTree(d, under)...)
		}
		d.Token()
		l[0].Size = len(l)
		return l
	case string:
		return []jtree.Node{node('s', key, x, 1)}
	case json.Number:
		return []jtree.Node{node('n', key, string(x), 1)}
	case bool:
		return []jtree.Node{node(map[bool]byte{true: 't', false: 'f'}[x], key, "", 1)}
	}
	return []jtree.Node{node('z', key, "", 1)}
}

// value makes some JSON by chance, with blanks anywhere; where no key may be twice, none is.
func value(r *rand.Rand, deep int, twice bool) string {
	space := func() string { return blanks[r.Intn(7)][:r.Intn(2)] }
	var s strings.Builder
	s.WriteString(space())
	switch kind := r.Intn(5); {
	case deep == 0 || kind < 2:
		s.WriteString(leaves[r.Intn(len(leaves))].s)
	case kind == 2:
		s.WriteString("[")
		for i := range r.Intn(5) {
			if i > 0 {
				s.WriteString(",")
			}
			s.WriteString(value(r, deep-1, twice))
		}
		s.WriteString(space() + "]")
	default:
		s.WriteString("{")
		order := r.Perm(len(keys))
		for i := range r.Intn(5) {
			if i > 0 {
				s.WriteString(",")
			}
			k := keys[order[i]]
			if twice && r.Intn(20) == 0 {
				k = keys[order[0]]
			}
			s.WriteString(space() + k.s + space() + ":" + value(r, deep-1, twice))
		}
		s.WriteString(space() + "}")
	}
	return s.String() + space()
}

// 13.1, 13.2: what the library takes as JSON has the tree that it tells.
func TestReadAsLibrary(t *testing.T) {
	r := rand.New(rand.NewSource(13))
	for range 20000 {
		s := value(r, 6, false)
		d := json.NewDecoder(strings.NewReader(s))
		d.UseNumber()
		if wantRead(t, s, libraryTree(d, ""), api.OK); t.Failed() {
			return
		}
	}
}

// 13.2: what the library takes as JSON is a tree, but for keys that are twice, and nothing else is.
func TestReadValid(t *testing.T) {
	r := rand.New(rand.NewSource(31))
	for range 20000 {
		tokens := parted(t, value(r, 3, true))
		for range r.Intn(3) {
			at, other := r.Intn(len(tokens)), []string{"{", "}", "[", "]", ":", ",", `"a"`, "1", "null"}[r.Intn(9)]
			switch r.Intn(3) {
			case 0:
				tokens[at] = other
			case 1:
				tokens = slices.Insert(tokens, at, other)
			case 2:
				tokens[at] = ""
			}
		}
		s := strings.Join(tokens, " ")
		_, code := jtree.Read(s)
		if valid := json.Valid([]byte(s)); code != api.ErrTwice && valid != (code == api.OK) {
			t.Fatalf("%q: %d, valid %v", s, code, valid)
		}
		if wantLike(t, s); t.Failed() {
			return
		}
	}
}

// P0, 13.2: any bytes, those of JSON with some of them others, too, are told as they are meant.
func TestReadOfChance(t *testing.T) {
	r := rand.New(rand.NewSource(3))
	for range 20000 {
		b := []byte(value(r, 3, true))
		for range r.Intn(4) {
			b[r.Intn(len(b))] = byte(r.Intn(256))
		}
		wantLike(t, string(b))
		wantLike(t, string(b[:r.Intn(len(b)+1)]))
		noise := make([]byte, r.Intn(20))
		for i := range noise {
			noise[i] = "{}[]:,\"a1 \\\xff"[r.Intn(12)]
		}
		if wantLike(t, string(noise)); t.Failed() {
			return
		}
	}
}

// 13.3: the kids of each node of trees written out, and of places where there is no node.
func TestKidsWritten(t *testing.T) {
	for _, one := range trees {
		l, _ := jtree.Read(one.s)
		wantKids(t, l, one.kids)
	}
	for _, one := range leaves {
		l, _ := jtree.Read(one.s)
		wantKids(t, l, [][]int{nil})
	}
	wantKids(t, nil, nil)
	wantKids(t, []jtree.Node{}, nil)
	for _, one := range going {
		l, _ := jtree.Read(one.s)
		wantKids(t, l, nil)
	}
}

// 13.3: the kids of lists and objects of many, of those within others, and of trees by chance.
func TestKidsMany(t *testing.T) {
	r := rand.New(rand.NewSource(4))
	for range 5000 {
		s := value(r, 6, false)
		l, _ := jtree.Read(s)
		_, kids, _ := meant(s)
		wantKids(t, l, kids)
	}
	const many = 5000
	for _, one := range []struct {
		s     string
		apart int
	}{{"0", 1}, {"[]", 1}, {`{"a":0}`, 2}, {"[0,[0]]", 4}} {
		var places []int
		for i := range many {
			places = append(places, 1+i*one.apart)
		}
		l, _ := jtree.Read("[" + strings.Repeat(one.s+",", many-1) + one.s + "]")
		if got := jtree.Kids(l, 0); !slices.Equal(got, places) {
			t.Errorf("kids of many %q: %d of them", one.s, len(got))
		}
	}
	for _, sign := range []string{"[", "{"} {
		l, _ := jtree.Read(deep(32, sign) + closed(32, sign))
		for at := range 32 {
			want := []int{at + 1}[:min(1, 31-at)]
			if got := jtree.Kids(l, at); !slices.Equal(got, want) {
				t.Errorf("kids at %d of 32 %s: %v", at, sign, got)
			}
		}
	}
}

// 13.3 and R3: the nodes stay as they are, what lies behind them in memory is not looked at, and each answer is a list of
// its own.
func TestKidsApart(t *testing.T) {
	for _, one := range trees {
		whole := append(slices.Clone(one.l), node('[', "x", "y", 3), node('n', "", "1", 1), node('n', "", "1", 1))
		l := whole[:len(one.l)]
		for at := range l {
			first, second := jtree.Kids(l, at), jtree.Kids(l, at)
			for i := range first[:cap(first)] {
				first[:cap(first)][i] = -7
			}
			if !slices.Equal(second, one.kids[at]) {
				t.Errorf("%q: %v changed with another answer", one.s, second)
			}
		}
		wantKids(t, l, one.kids)
		if !slices.Equal(l, one.l) || whole[len(l)] != node('[', "x", "y", 3) {
			t.Errorf("%q: Kids writes to the nodes", one.s)
		}
	}
}

// puts are texts with what is laid of their trees, written out.
var puts = []struct{ s, want string }{
	{"null", "null"},
	{" true ", "true"},
	{"\tfalse\n", "false"},
	{"0", "0"},
	{"-0", "-0"},
	{"-1.50E+070", "-1.50E+070"},
	{" 1e99999999999999999999999 ", "1e99999999999999999999999"},
	{`""`, `""`},
	{`" a "`, `" a "`},
	{`"\"\\\/\b\f\n\r\t"`, `"\"\\/\u0008\u000c\u000a\u000d\u0009"`},
	{`"\u0041\u20AC\uD83D\uDE00\u007f"`, "\"A\xe2\x82\xac\xf0\x9f\x98\x80\x7f\""},
	{"[]", "[]"},
	{"[ ]", "[]"},
	{"{ }", "{}"},
	{"[ 1 ]", "[1]"},
	{"[ 1 , 2 ]", "[1,2]"},
	{`[1, "a", null, true, false, [], {}]`, `[1,"a",null,true,false,[],{}]`},
	{`{"a": [1, true]}`, `{"a":[1,true]}`},
	{`{ "a" : 1 }`, `{"a":1}`},
	{`{ "b" : 1 , "a" : 2 , "" : 3 }`, `{"b":1,"a":2,"":3}`},
	{`{"": ""}`, `{"":""}`},
	{`{"\"\n\u20ac\/": "\n"}`, "{\"\\\"\\u000a\xe2\x82\xac/\":\"\\u000a\"}"},
	{`{"{}": "[]"}`, `{"{}":"[]"}`},
	{"[ [ ] , [ [ ] ] ]", "[[],[[]]]"},
	{`{ "a" : { } , "b" : { "a" : { } } }`, `{"a":{},"b":{"a":{}}}`},
	{`[ { "a" : [ { } , { "b" : 0 } ] } , 1 ]`, `[{"a":[{},{"b":0}]},1]`},
	{`{"a":[[1,2],[3]],"c":{"d":[]}}`, `{"a":[[1,2],[3]],"c":{"d":[]}}`},
}

// 13.3: trees written out, behind no list, an empty one, and others, with and without room.
func TestPutWritten(t *testing.T) {
	for _, one := range puts {
		l, code := jtree.Read(one.s)
		if code != api.OK {
			t.Fatalf("%q: %d", one.s, code)
		}
		for _, b := range [][]byte{nil, {}, {0}, []byte(`"`), []byte("["), []byte("1"), []byte("abc\xff"), bytes.Repeat([]byte{'['}, 100), make([]byte, 0, 100), make([]byte, 5, 100)} {
			wantPut(t, b, l, one.want)
		}
	}
}

// 13.3: of no nodes b alone, as a new list.
func TestPutNothing(t *testing.T) {
	for _, l := range [][]jtree.Node{nil, {}, make([]jtree.Node, 0, 5), []jtree.Node{node('[', "", "", 1)}[:0]} {
		for _, b := range [][]byte{nil, {}, {0}, []byte("abc"), make([]byte, 0, 10), make([]byte, 3, 10)} {
			wantPut(t, b, l, "")
			got := jtree.Put(b, l)
			for i := range got {
				got[i] = 'X'
			}
			if bytes.Contains(b, []byte{'X'}) {
				t.Errorf("what is laid of no nodes is b itself")
			}
		}
	}
	for _, one := range going {
		l, _ := jtree.Read(one.s)
		wantPut(t, []byte("b"), l, "")
	}
}

// 13.3: what is laid are the tree's tokens, without blanks, and it is read again as the same tree, also as the library
// reads it.
func TestPutAndRead(t *testing.T) {
	r := rand.New(rand.NewSource(5))
	var list []string
	for range 5000 {
		list = append(list, value(r, 6, false))
	}
	for _, one := range trees {
		list = append(list, one.s)
	}
	for _, signs := range [][]string{{"["}, {"{"}, {"[", "{"}} {
		list = append(list, deep(32, signs...)+closed(32, signs...))
	}
	for _, s := range list {
		l, _ := jtree.Read(s)
		wantPut(t, nil, l, laid(t, s))
		again := string(jtree.Put(nil, l))
		wantRead(t, again, l, api.OK)
		wantPut(t, []byte("ahead"), l, again)
		var one, other any
		for _, both := range []struct {
			s    string
			into *any
		}{{s, &one}, {again, &other}} {
			d := json.NewDecoder(strings.NewReader(both.s))
			d.UseNumber()
			if err := d.Decode(both.into); err != nil {
				t.Fatalf("%q: %v", both.s, err)
			}
		}
		if !reflect.DeepEqual(one, other) {
			t.Errorf("%s is laid as %s", short(s), short(again))
		}
		if t.Failed() {
			return
		}
	}
}

// 13.3: each byte that may stand in a text, in one, and in a key.
func TestPutEachByte(t *testing.T) {
	for i := range 128 {
		s := string([]byte{byte(i)})
		j := string(jstring.Put(nil, "x"+s+"x"))
		l := []jtree.Node{node('{', "", "", 3), node('s', "x"+s+"x", s, 1), node('[', s, "", 1)}
		written := "{" + j + ":" + string(jstring.Put(nil, s)) + "," + string(jstring.Put(nil, s)) + ":[]}"
		wantRead(t, written, l, api.OK)
		wantPut(t, []byte("b"), l, written)
	}
}

// 13.3: many nodes, and long texts.
func TestPutMany(t *testing.T) {
	const many = 20000
	for _, one := range []string{"0", "null", "[]", "{}", `"a"`, `{"a":[1,2,{"b":-1.0}]}`} {
		s := "[" + strings.Repeat(one+",", many-1) + one + "]"
		l, _ := jtree.Read(s)
		wantPut(t, []byte("b"), l, s)
	}
	run := strings.Repeat("7", 100000)
	wantPut(t, []byte(run), []jtree.Node{node('{', "", "", 3), node('s', run, run, 1), node('n', "", run, 1)}, `{"`+run+`":"`+run+`","":`+run+"}")
}

// 13.3 and R3: a new list: neither b, nor what lies behind its length, nor the nodes are written to, and no answer shares
// with b, or with another answer.
func TestPutApart(t *testing.T) {
	const all = "0123456789abcdefghijklmnopqrstuvwxyz"
	for _, one := range puts {
		for _, have := range []int{0, 3, 30, 36} {
			whole := []byte(all)
			l, _ := jtree.Read(one.s)
			was := slices.Clone(l)
			first, second := jtree.Put(whole[:have], l), jtree.Put(whole[:have], l)
			if string(whole) != all || !slices.Equal(l, was) {
				t.Errorf("%q: Put writes to what it was handed: %q, %v", one.s, whole, l)
			}
			if rest := first[len(first):cap(first)]; bytes.ContainsAny(rest, all) {
				t.Errorf("%q: %q is handed out behind the answer", one.s, rest)
			}
			for i := range first[:cap(first)] {
				first[:cap(first)][i] = 'X'
			}
			for i := range whole {
				whole[i] = 'Y'
			}
			for i := range l {
				l[i] = node('X', "X", "X", 1)
			}
			if string(second) != all[:have]+one.want {
				t.Errorf("%q: the second answer changed with the first, or with b: %q", one.s, second)
			}
		}
	}
}
