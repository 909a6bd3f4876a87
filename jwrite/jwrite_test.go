package jwrite_test

import (
	"encoding/json"
	"fmt"
	"math"
	"math/rand"
	"reflect"
	"slices"
	"strconv"
	"strings"
	"testing"
	"unicode/utf8"

	"truchman/api"
	"truchman/jtree"
	"truchman/jwrite"
)

// maxDeep is MaxDeep, written out.
const maxDeep = 32

// call is something that a writer is told.
type call struct {
	name string
	kind byte // '{', '[', 'e' of End, 'k' of Key, 'v' of a value that none can be in
	laid string
	mean any // what the library reads of it, if it is a value, or a key
	do   func(w *jwrite.Writer)
}

var (
	object = call{name: "Object", kind: '{', do: (*jwrite.Writer).Object}
	list   = call{name: "List", kind: '[', do: (*jwrite.Writer).List}
	end    = call{name: "End", kind: 'e', do: (*jwrite.Writer).End}
	null   = call{name: "Null", kind: 'v', laid: "null", do: (*jwrite.Writer).Null}
)

// escapes replaces each byte that needs another one.
var escapes = func() *strings.Replacer {
	pairs := []string{`"`, `\"`, `\`, `\\`}
	for i := range 32 {
		pairs = append(pairs, string([]byte{byte(i)}), fmt.Sprintf(`\u%04x`, i))
	}
	return strings.NewReplacer(pairs...)
}()

// escaped tells a text's JSON.
func escaped(s string) string {
	return `"` + escapes.Replace(s) + `"`
}

func key(s string) call {
	return call{name: "Key " + short(strconv.Quote(s)), kind: 'k', laid: escaped(s), mean: s, do: func(w *jwrite.Writer) { w.Key(s) }}
}

func text(s string) call {
	return call{name: "Text " + short(strconv.Quote(s)), kind: 'v', laid: escaped(s), mean: s, do: func(w *jwrite.Writer) { w.Text(s) }}
}

func whole(n int) call {
	digits := fmt.Sprintf("%d", n)
	return call{name: "Whole " + digits, kind: 'v', laid: digits, mean: json.Number(digits), do: func(w *jwrite.Writer) { w.Whole(n) }}
}

func flag(is bool) call {
	laid := map[bool]string{true: "true", false: "false"}[is]
	return call{name: "Flag " + laid, kind: 'v', laid: laid, mean: is, do: func(w *jwrite.Writer) { w.Flag(is) }}
}

// times tells calls, so many times one behind the other.
func times(many int, parts ...any) []call {
	return slices.Repeat(all(parts...), many)
}

// all tells calls, one behind the other.
func all(parts ...any) []call {
	var calls []call
	for _, part := range parts {
		switch x := part.(type) {
		case call:
			calls = append(calls, x)
		case []call:
			calls = append(calls, x...)
		default:
			panic(part)
		}
	}
	return calls
}

// short tells a text by its beginning and its end, if it is long.
func short(s string) string {
	if len(s) > 400 {
		return fmt.Sprintf("%.200s .. %s (%d bytes)", s, s[len(s)-100:], len(s))
	}
	return s
}

// names tells what a writer was told.
func names(calls []call) string {
	var list []string
	for _, c := range calls {
		list = append(list, c.name)
	}
	return short(strings.Join(list, ", "))
}

// tell tells a writer all that.
func tell(w *jwrite.Writer, calls []call) {
	for _, c := range calls {
		c.do(w)
	}
}

// written tells a new writer all that.
func written(calls []call) *jwrite.Writer {
	w := jwrite.New()
	tell(w, calls)
	return w
}

// wantDone asks a writer for what was written.
func wantDone(t *testing.T, w *jwrite.Writer, calls []call, want string, code api.Code) {
	t.Helper()
	if got, is := w.Done(); got != want || is != code {
		t.Errorf("%s: %s, %d, want %s, %d", names(calls), short(strconv.Quote(got)), is, short(strconv.Quote(want)), code)
	}
}

// wantWritten asks for what is written of these calls, by a new writer.
func wantWritten(t *testing.T, calls []call, want string) {
	t.Helper()
	wantDone(t, written(calls), calls, want, api.OK)
}

// wantFail asks for an error of these calls, told to a new writer.
func wantFail(t *testing.T, calls []call, code api.Code) {
	t.Helper()
	wantDone(t, written(calls), calls, "", code)
}

// node is a value, as the model has it.
type node struct {
	call
	keys []call
	kids []*node
}

// waits tells whether a value has a key that has none.
func (n *node) waits() bool {
	return len(n.keys) > len(n.kids)
}

// json tells a value's JSON.
func (n *node) json() string {
	if n.kind == 'v' {
		return n.laid
	}
	var parts []string
	for i, kid := range n.kids {
		part := kid.json()
		if n.kind == '{' {
			part = n.keys[i].laid + ":" + part
		}
		parts = append(parts, part)
	}
	within := strings.Join(parts, ",")
	if n.kind == '{' {
		return "{" + within + "}"
	}
	return "[" + within + "]"
}

// read tells what the library reads of a value, if no key is there twice.
func (n *node) read() any {
	switch n.kind {
	case '{':
		members := map[string]any{}
		for i, kid := range n.kids {
			members[n.keys[i].mean.(string)] = kid.read()
		}
		return members
	case '[':
		values := []any{}
		for _, kid := range n.kids {
			values = append(values, kid.read())
		}
		return values
	}
	return n.mean
}

// twice tells whether a value, or one in it, has a key twice.
func (n *node) twice() bool {
	for i, one := range n.keys {
		for _, other := range n.keys[:i] {
			if one.laid == other.laid {
				return true
			}
		}
	}
	return slices.ContainsFunc(n.kids, (*node).twice)
}

// right tells whether all texts of a value are right.
func (n *node) right() bool {
	for _, one := range append([]call{n.call}, n.keys...) {
		if s, is := one.mean.(string); is && !utf8.ValidString(s) {
			return false
		}
	}
	return !slices.ContainsFunc(n.kids, func(kid *node) bool { return !kid.right() })
}

// model is a writer made apart, by the chapter's words: it keeps values, and no bytes.
type model struct {
	code api.Code
	root *node
	open []*node // what was begun and did not end
}

// last tells what was begun last and did not end, if there is such a thing.
func (m *model) last() *node {
	if len(m.open) == 0 {
		return nil
	}
	return m.open[len(m.open)-1]
}

// wrong tells what is wrong with a call.
func (m *model) wrong(c call) api.Code {
	last := m.last()
	switch {
	case (c.kind == '{' || c.kind == '[') && len(m.open) == maxDeep:
		return api.ErrDeep
	case c.kind == 'k' && (last == nil || last.kind != '{' || last.waits()):
		return api.ErrOrder
	case c.kind == 'e' && (last == nil || last.waits()):
		return api.ErrOrder
	case strings.IndexByte("{[v", c.kind) >= 0 && last == nil && m.root != nil:
		return api.ErrOrder
	case strings.IndexByte("{[v", c.kind) >= 0 && last != nil && last.kind == '{' && !last.waits():
		return api.ErrOrder
	}
	return api.OK
}

// tell tells the model of a call.
func (m *model) tell(c call) {
	if m.code == api.OK {
		m.code = m.wrong(c)
	}
	if m.code != api.OK {
		return
	}
	last := m.last()
	switch c.kind {
	case 'k':
		last.keys = append(last.keys, c)
		return
	case 'e':
		m.open = m.open[:len(m.open)-1]
		return
	}
	n := &node{call: c}
	if last == nil {
		m.root = n
	} else {
		last.kids = append(last.kids, n)
	}
	if c.kind != 'v' {
		m.open = append(m.open, n)
	}
}

// done tells what Done has to.
func (m *model) done() (string, api.Code) {
	switch {
	case m.code != api.OK:
		return "", m.code
	case m.root == nil || len(m.open) > 0:
		return "", api.ErrCut
	}
	return m.root.json(), api.OK
}

// wantLike holds a writer that is told all that, and asked behind each call, against the model; and another one, which is
// asked at the end alone.
func wantLike(t *testing.T, calls []call) *model {
	t.Helper()
	m, w := &model{}, jwrite.New()
	for i, c := range calls {
		m.tell(c)
		c.do(w)
		want, code := m.done()
		wantDone(t, w, calls[:i+1], want, code)
	}
	want, code := m.done()
	wantDone(t, w, calls, want, code)
	wantDone(t, written(calls), calls, want, code)
	return m
}

// wantRead holds what was written of a model's value against what layer 13 and the library read.
func wantRead(t *testing.T, m *model, s string) {
	t.Helper()
	l, code := jtree.Read(s)
	if !m.root.right() || m.root.twice() {
		if code != api.ErrText && code != api.ErrTwice {
			t.Errorf("%s, which is not right, or has one key twice, is read with %d", short(s), code)
		}
		return
	}
	if back := string(jtree.Put(nil, l)); code != api.OK || back != s {
		t.Errorf("%s is read with %d, and laid as %s", short(s), code, short(back))
	}
	var got any
	d := json.NewDecoder(strings.NewReader(s))
	d.UseNumber()
	if err := d.Decode(&got); err != nil || d.More() || !reflect.DeepEqual(got, m.root.read()) {
		t.Errorf("the library reads %s as %s: %v", short(s), short(fmt.Sprintf("%#v", got)), err)
	}
}

// single are values that none can be in, with their JSON written out.
var single = []struct {
	call
	want string
}{
	// Texts.
	{text(""), `""`},
	{text(" "), `" "`},
	{text("a"), `"a"`},
	{text("/"), `"/"`},
	{text("null"), `"null"`},
	{text("0"), `"0"`},
	{text("a,b"), `"a,b"`},
	{text("{}"), `"{}"`},
	{text("[1,2]"), `"[1,2]"`},
	{text(`a":`), `"a\":"`},
	{text(`"`), `"\""`},
	{text(`\`), `"\\"`},
	{text(`\"`), `"\\\""`},
	{text(`\n`), `"\\n"`},
	{text("\x00"), `"\u0000"`},
	{text("\x08\x0c\x0a\x0d\x09"), `"\u0008\u000c\u000a\u000d\u0009"`},
	{text("\x1f\x20"), `"\u001f "`},
	{text("\x7f"), "\"\x7f\""},
	{text("\xc3\xa9\xe2\x82\xac\xf0\x9f\x98\x80"), "\"\xc3\xa9\xe2\x82\xac\xf0\x9f\x98\x80\""},
	{text("\xe2\x80\xa8<&>"), "\"\xe2\x80\xa8<&>\""},
	{text("\xff"), "\"\xff\""},
	{text("a\xc0\x80\"\xe2\x82"), "\"a\xc0\x80\\\"\xe2\x82\""},
	// Whole numbers.
	{whole(0), "0"},
	{whole(1), "1"},
	{whole(-1), "-1"},
	{whole(9), "9"},
	{whole(10), "10"},
	{whole(-10), "-10"},
	{whole(100000), "100000"},
	{whole(-4294967296), "-4294967296"},
	{whole(9007199254740993), "9007199254740993"},
	{whole(math.MaxInt - 1), "9223372036854775806"},
	{whole(math.MaxInt), "9223372036854775807"},
	{whole(math.MinInt + 1), "-9223372036854775807"},
	{whole(math.MinInt), "-9223372036854775808"},
	// Words.
	{flag(true), "true"},
	{flag(false), "false"},
	{null, "null"},
}

// keys are keys with their JSON written out.
var keys = []struct {
	call
	want string
}{
	{key(""), `""`},
	{key(" "), `" "`},
	{key("a"), `"a"`},
	{key("a:b,c"), `"a:b,c"`},
	{key("null"), `"null"`},
	{key(`"`), `"\""`},
	{key(`\`), `"\\"`},
	{key("\x00\n\x1f"), `"\u0000\u000a\u001f"`},
	{key("\x7f/"), "\"\x7f/\""},
	{key("\xc3\xa9\xf0\x9f\x98\x80"), "\"\xc3\xa9\xf0\x9f\x98\x80\""},
	{key("\xff\x80"), "\"\xff\x80\""},
}

// The chapter's example.
func TestExample(t *testing.T) {
	w := jwrite.New()
	w.Object()
	w.Key("a")
	w.List()
	w.Whole(1)
	w.Null()
	w.End()
	w.End()
	if got, code := w.Done(); got != `{"a":[1,null]}` || code != api.OK {
		t.Errorf("%q, %d", got, code)
	}
}

// 15.1: each value alone, in a list and in an object, behind itself, and between others.
func TestSingle(t *testing.T) {
	for _, one := range single {
		v, want := one.call, one.want
		if v.laid != want {
			t.Errorf("%s is reckoned as %s, want %s", v.name, v.laid, want)
		}
		wantWritten(t, all(v), want)
		wantWritten(t, all(list, v, end), "["+want+"]")
		wantWritten(t, all(list, v, v, end), "["+want+","+want+"]")
		wantWritten(t, all(list, whole(7), v, whole(8), end), "[7,"+want+",8]")
		wantWritten(t, all(object, key("k"), v, end), `{"k":`+want+"}")
		wantWritten(t, all(object, key("k"), v, key("l"), v, end), `{"k":`+want+`,"l":`+want+"}")
		wantWritten(t, all(list, list, end, v, object, end, v, end), "[[],"+want+",{},"+want+"]")
		wantRead(t, wantLike(t, all(list, v, object, key("k"), v, end, end)), "["+want+`,{"k":`+want+"}]")
		for _, other := range single {
			wantWritten(t, all(list, v, other.call, end), "["+want+","+other.want+"]")
		}
	}
}

// 15.1: a text of each byte, alone and behind another one, as a value and as a key.
func TestEachByte(t *testing.T) {
	for i := range 256 {
		s := string([]byte{byte(i)})
		want := s
		switch {
		case i < 32:
			want = fmt.Sprintf(`\u00%02x`, i)
		case s == `"` || s == `\`:
			want = `\` + s
		}
		wantWritten(t, all(text(s)), `"`+want+`"`)
		wantWritten(t, all(object, key("x"+s), text(s+"y"), end), `{"x`+want+`":"`+want+`y"}`)
	}
}

// 15.1: keys, each alone, ahead of each kind of value, behind each other one, and twice in one object, or in two.
func TestKeys(t *testing.T) {
	for _, one := range keys {
		k, want := one.call, one.want
		if k.laid != want {
			t.Errorf("%s is reckoned as %s, want %s", k.name, k.laid, want)
		}
		for _, v := range single {
			wantWritten(t, all(object, k, v.call, end), "{"+want+":"+v.want+"}")
		}
		wantWritten(t, all(object, k, object, end, end), "{"+want+":{}}")
		wantWritten(t, all(object, k, list, end, end), "{"+want+":[]}")
		wantWritten(t, all(object, k, object, k, object, k, null, end, end, end), "{"+want+":{"+want+":{"+want+":null}}}")
		wantWritten(t, all(list, object, k, null, end, object, k, null, end, end), "[{"+want+":null},{"+want+":null}]")
		for _, other := range keys {
			wantWritten(t, all(object, k, whole(1), other.call, whole(2), end), "{"+want+":1,"+other.want+":2}")
			wantLike(t, all(object, k, object, other.call, null, end, other.call, list, end, k, null, end))
		}
	}
}

// 15.1: texts written out: objects and lists with nothing in them, with one and with many, in each other and behind each
// other.
func TestWritten(t *testing.T) {
	a, b := key("a"), key("b")
	for _, one := range []struct {
		calls []call
		want  string
	}{
		{all(object, end), "{}"},
		{all(list, end), "[]"},
		{all(list, list, end, end), "[[]]"},
		{all(list, object, end, end), "[{}]"},
		{all(object, a, object, end, end), `{"a":{}}`},
		{all(object, a, list, end, end), `{"a":[]}`},
		{all(list, list, end, list, end, end), "[[],[]]"},
		{all(list, object, end, object, end, end), "[{},{}]"},
		{all(list, list, end, object, end, list, end, end), "[[],{},[]]"},
		{all(list, list, end, whole(1), list, end, end), "[[],1,[]]"},
		{all(list, whole(1), list, end, whole(2), end), "[1,[],2]"},
		{all(list, whole(1), object, end, whole(2), end), "[1,{},2]"},
		{all(list, whole(1), list, whole(2), end, whole(3), end), "[1,[2],3]"},
		{all(list, whole(1), list, whole(2), whole(3), end, whole(4), whole(5), end), "[1,[2,3],4,5]"},
		{all(list, list, list, end, whole(1), end, whole(2), end), "[[[],1],2]"},
		{all(list, list, list, whole(1), end, end, whole(2), list, list, whole(3), end, end, end), "[[[1]],2,[[3]]]"},
		{all(object, a, object, end, b, object, end, end), `{"a":{},"b":{}}`},
		{all(object, a, list, end, b, list, end, end), `{"a":[],"b":[]}`},
		{all(object, a, whole(1), a, whole(2), end), `{"a":1,"a":2}`},
		{all(object, a, whole(1), b, whole(2), a, whole(3), end), `{"a":1,"b":2,"a":3}`},
		{all(object, b, null, a, null, end), `{"b":null,"a":null}`},
		{all(object, a, object, a, object, a, null, b, null, end, b, null, end, b, null, end), `{"a":{"a":{"a":null,"b":null},"b":null},"b":null}`},
		{all(object, a, list, object, b, list, end, end, end, b, flag(true), end), `{"a":[{"b":[]}],"b":true}`},
		{all(list, object, a, list, object, end, end, end, flag(false), end), `[{"a":[{}]},false]`},
		{all(list, object, a, null, end, object, a, null, b, null, end, null, end), `[{"a":null},{"a":null,"b":null},null]`},
		{all(object, a, list, null, end, b, list, null, null, end, end), `{"a":[null],"b":[null,null]}`},
		{all(object, a, text("b"), b, text("a"), end), `{"a":"b","b":"a"}`},
		{all(list, times(5, whole(0)), end), "[0,0,0,0,0]"},
		{all(list, times(3, list, whole(1), end), end), "[[1],[1],[1]]"},
		{all(object, times(3, a, flag(true)), end), `{"a":true,"a":true,"a":true}`},
	} {
		wantWritten(t, one.calls, one.want)
		wantRead(t, wantLike(t, one.calls), one.want)
	}
}

// kinds are calls, one of each kind.
var kinds = []call{object, list, end, key("k"), whole(1)}

// eachOf goes through all lists of so many calls of these kinds.
func eachOf(many int, do func(calls []call)) {
	calls := make([]call, many)
	var from func(i int)
	from = func(i int) {
		if i == many {
			do(calls)
			return
		}
		for _, c := range kinds {
			calls[i] = c
			from(i + 1)
		}
	}
	from(0)
}

// 15.1 to 15.3: each eight calls, and what their fronts are: what is written, or which error there is.
func TestOfFew(t *testing.T) {
	eachOf(8, func(calls []call) {
		if !t.Failed() {
			wantLike(t, calls)
		}
	})
}

// 15.1 to 15.3: each four calls where something is begun already, or was, also as deep as may be, and behind the end.
func TestOfFewBehind(t *testing.T) {
	k := key("")
	for _, ahead := range [][]call{
		all(list, null),
		all(list, object, k, null),
		all(object, k, list),
		all(object, k, object, end),
		all(object, k, object, k, list, end),
		all(list, list, list, list),
		all(object, times(4, k, object)),
		times(maxDeep-3, list),
		times(maxDeep-2, list),
		times(maxDeep-1, list),
		times(maxDeep, list),
		all(object, times(maxDeep-2, k, object)),
		all(object, times(maxDeep-1, k, object)),
		all(object, times(maxDeep-1, k, object), k),
		all(list, times((maxDeep-2)/2, object, k, list)),
		all(list, times((maxDeep-2)/2, object, k, list), object),
		all(list, times(100, list, end)),
		all(list, times(maxDeep-1, list), times(maxDeep-1, end)),
		all(list, times(maxDeep-1, list), times(maxDeep-1, end), times(maxDeep-2, list)),
		all(times(maxDeep, list), times(maxDeep, end)),
		all(times(maxDeep, list), times(maxDeep-1, end)),
	} {
		eachOf(4, func(calls []call) {
			if !t.Failed() {
				wantLike(t, slices.Concat(ahead, calls))
			}
		})
	}
}

// some tells one of these calls that may be next, but none that would end all of it.
func some(r *rand.Rand, m *model, calls []call) call {
	for {
		c := calls[r.Intn(len(calls))]
		if m.wrong(c) == api.OK && (len(m.open) != 1 || c.kind != 'e') {
			return c
		}
	}
}

// begun begins an object or a list, as the model is told, too.
func begun(r *rand.Rand, m *model) []call {
	c := []call{object, list}[r.Intn(2)]
	m.tell(c)
	return []call{c}
}

// many are calls to take one of by chance, such as end something as often as such as begin it; most keys are other ones.
func many(r *rand.Rand) []call {
	const count = 1000
	calls := times(count, object, list, end, end)
	for i := range count {
		k := keys[i%len(keys)]
		calls = append(calls, single[i%len(single)].call, whole(int(r.Uint64())>>r.Intn(64)), key(strconv.Itoa(i)), key(fmt.Sprint(k.mean, i)))
	}
	return calls
}

// 15.1 to 15.3: many calls by chance, ended in the end, are read back; one that is told at any place besides, and one that
// lacks at any, may be wrong, or not.
func TestByChance(t *testing.T) {
	r := rand.New(rand.NewSource(15))
	pool := many(r)
	for range 1000 {
		m := &model{}
		calls := begun(r, m)
		for range r.Intn(100) {
			c := some(r, m, pool)
			m.tell(c)
			calls = append(calls, c)
		}
		at := r.Intn(len(calls))
		wantLike(t, slices.Insert(slices.Clone(calls), at, kinds[r.Intn(len(kinds))]))
		wantLike(t, slices.Delete(slices.Clone(calls), at, at+1))
		for len(m.open) > 0 {
			c := end
			if m.last().waits() {
				c = null
			}
			m.tell(c)
			calls = append(calls, c)
		}
		wantLike(t, calls)
		s, code := written(calls).Done()
		if code != api.OK {
			t.Fatalf("%s: %d", names(calls), code)
		}
		wantRead(t, m, s)
	}
}

// faults are calls of which the last one is an error of the writer.
var faults = []struct {
	calls []call
	code  api.Code
}{
	// A value behind one that is in no other one, and that was written, or begun and ended.
	{all(null, null), api.ErrOrder},
	{all(null, text("")), api.ErrOrder},
	{all(null, whole(0)), api.ErrOrder},
	{all(null, flag(true)), api.ErrOrder},
	{all(null, flag(false)), api.ErrOrder},
	{all(null, object), api.ErrOrder},
	{all(null, list), api.ErrOrder},
	{all(text(""), text("")), api.ErrOrder},
	{all(whole(0), whole(0)), api.ErrOrder},
	{all(flag(true), flag(true)), api.ErrOrder},
	{all(object, end, null), api.ErrOrder},
	{all(object, end, object), api.ErrOrder},
	{all(object, end, list), api.ErrOrder},
	{all(list, end, null), api.ErrOrder},
	{all(list, end, object), api.ErrOrder},
	{all(list, end, list), api.ErrOrder},
	{all(list, list, end, end, text("a")), api.ErrOrder},
	{all(object, key("a"), whole(1), end, whole(1)), api.ErrOrder},
	{all(times(maxDeep, list), times(maxDeep, end), list), api.ErrOrder},
	// A value in an object without a key ahead of it.
	{all(object, null), api.ErrOrder},
	{all(object, text("a")), api.ErrOrder},
	{all(object, whole(1)), api.ErrOrder},
	{all(object, flag(true)), api.ErrOrder},
	{all(object, flag(false)), api.ErrOrder},
	{all(object, object), api.ErrOrder},
	{all(object, list), api.ErrOrder},
	{all(object, key("a"), null, null), api.ErrOrder},
	{all(object, key("a"), null, object), api.ErrOrder},
	{all(object, key("a"), list, end, list), api.ErrOrder},
	{all(object, key("a"), object, end, text("a")), api.ErrOrder},
	{all(object, key("a"), object, null), api.ErrOrder},
	{all(list, object, null), api.ErrOrder},
	{all(object, times(maxDeep-1, key("a"), object), null), api.ErrOrder},
	// A key outside of an object.
	{all(key("a")), api.ErrOrder},
	{all(key("")), api.ErrOrder},
	{all(null, key("a")), api.ErrOrder},
	{all(object, end, key("a")), api.ErrOrder},
	{all(list, end, key("a")), api.ErrOrder},
	{all(object, key("a"), null, end, key("b")), api.ErrOrder},
	{all(list, key("a")), api.ErrOrder},
	{all(list, null, key("a")), api.ErrOrder},
	{all(list, object, end, key("a")), api.ErrOrder},
	{all(object, key("a"), list, key("b")), api.ErrOrder},
	{all(object, key("a"), list, null, key("b")), api.ErrOrder},
	{all(times(maxDeep, list), key("a")), api.ErrOrder},
	// A key behind one that has no value.
	{all(object, key("a"), key("b")), api.ErrOrder},
	{all(object, key("a"), key("a")), api.ErrOrder},
	{all(object, key("a"), null, key("b"), key("c")), api.ErrOrder},
	{all(object, key("a"), object, key("b"), key("c")), api.ErrOrder},
	{all(object, key("a"), list, end, key("b"), key("c")), api.ErrOrder},
	// End where there is nothing to end.
	{all(end), api.ErrOrder},
	{all(null, end), api.ErrOrder},
	{all(text(""), end), api.ErrOrder},
	{all(object, end, end), api.ErrOrder},
	{all(list, end, end), api.ErrOrder},
	{all(list, list, end, end, end), api.ErrOrder},
	{all(object, key("a"), null, end, end), api.ErrOrder},
	{all(times(maxDeep, list), times(maxDeep+1, end)), api.ErrOrder},
	// End behind a key that has no value.
	{all(object, key("a"), end), api.ErrOrder},
	{all(object, key(""), end), api.ErrOrder},
	{all(object, key("a"), null, key("b"), end), api.ErrOrder},
	{all(list, object, key("a"), end), api.ErrOrder},
	{all(object, key("a"), object, key("b"), end), api.ErrOrder},
	{all(object, key("a"), list, end, key("b"), end), api.ErrOrder},
	// One deeper than may be.
	{all(times(maxDeep, list), list), api.ErrDeep},
	{all(times(maxDeep, list), object), api.ErrDeep},
	{all(times(maxDeep, list), null, list), api.ErrDeep},
	{all(object, times(maxDeep-1, key("a"), object), key("a"), object), api.ErrDeep},
	{all(object, times(maxDeep-1, key("a"), object), key("a"), list), api.ErrDeep},
	{all(times(maxDeep/2, object, key("a"), list), object), api.ErrDeep},
	{all(times(maxDeep/2, object, key("a"), list), list), api.ErrDeep},
	{all(list, times(maxDeep-1, list), times(maxDeep-1, end), times(maxDeep-1, list), list), api.ErrDeep},
	{all(list, times(50, list, null, end), times(maxDeep, list)), api.ErrDeep},
	// One deeper than may be, where no value may stand.
	{all(object, times(maxDeep-1, key("a"), object), object), api.ErrDeep},
	{all(object, times(maxDeep-1, key("a"), object), list), api.ErrDeep},
	{all(object, times(maxDeep-1, key("a"), object), key("a"), null, object), api.ErrDeep},
	{all(times(maxDeep-1, list), object, list), api.ErrDeep},
	{all(times(maxDeep-1, list), object, key("a"), whole(1), list), api.ErrDeep},
}

// anything are calls that a writer with an error may be told.
func anything() []call {
	return all(kinds, text("a"), flag(true), null, times(maxDeep+1, list), end, null, times(maxDeep+2, end), object, key("b"), key("c"), times(3, end))
}

// 15.2, 15.3: each error is the last call's, and stays, whatever is told behind it.
func TestFaults(t *testing.T) {
	for _, one := range faults {
		ahead := one.calls[:len(one.calls)-1]
		if _, code := written(ahead).Done(); code != api.OK && code != api.ErrCut {
			t.Errorf("%s: %d", names(ahead), code)
		}
		wantFail(t, one.calls, one.code)
		wantLike(t, one.calls)
		w := written(one.calls)
		for i, c := range anything() {
			c.do(w)
			wantDone(t, w, slices.Concat(one.calls, anything()[:i+1]), "", one.code)
		}
		for _, c := range anything() {
			wantFail(t, all(one.calls, c), one.code)
			wantFail(t, all(one.calls, c, c), one.code)
		}
		for _, other := range faults {
			wantFail(t, all(one.calls, other.calls), one.code)
		}
	}
}

// 15.2: as many lists and objects may be within each other as MaxDeep, wherever these stand, and however often.
func TestDeep(t *testing.T) {
	if api.MaxDeep != maxDeep {
		t.Fatalf("MaxDeep is %d", api.MaxDeep)
	}
	k := key("k")
	wantWritten(t, all(times(32, list), times(32, end)), strings.Repeat("[", 32)+strings.Repeat("]", 32))
	wantWritten(t, all(times(32, list), whole(1), text("a"), times(32, end)), strings.Repeat("[", 32)+`1,"a"`+strings.Repeat("]", 32))
	wantWritten(t, all(object, times(31, k, object), times(32, end)), strings.Repeat(`{"k":`, 31)+"{}"+strings.Repeat("}", 31))
	wantWritten(t, all(times(16, object, k, list), null, times(32, end)), strings.Repeat(`{"k":[`, 16)+"null"+strings.Repeat("]}", 16))
	wantWritten(t, all(list, times(3, times(31, list), times(31, end)), end), "["+strings.Repeat(","+strings.Repeat("[", 31)+strings.Repeat("]", 31), 3)[1:]+"]")
	wantWritten(t, all(times(31, list), times(100, list, end), times(31, end)), strings.Repeat("[", 31)+strings.Repeat(",[]", 100)[1:]+strings.Repeat("]", 31))
	wantWritten(t, all(list, times(100, object, end), times(100, list, end), end), "["+strings.Repeat("{},", 100)+strings.Repeat(",[]", 100)[1:]+"]")
	for _, c := range []call{object, list} {
		wantFail(t, all(times(31, list), times(100, list, end), list, c), api.ErrDeep)
		wantFail(t, all(list, times(31, list), times(31, end), times(31, list), c), api.ErrDeep)
	}
}

// 15.2: of objects and lists in each other by chance the one that is too deep is an error, and no other.
func TestDeepByChance(t *testing.T) {
	r := rand.New(rand.NewSource(32))
	for range 300 {
		m := &model{}
		calls := begun(r, m)
		for len(m.open) < maxDeep {
			c := some(r, m, all(object, list, object, list, end, key("k"), null))
			m.tell(c)
			calls = append(calls, c)
		}
		wantLike(t, calls)
		for _, c := range all(kinds, null) {
			wantLike(t, all(calls, c))
			wantLike(t, all(calls, null, c))
			wantLike(t, all(calls, end, c))
		}
	}
}

// 15.3: what lacks is told, but is no error of the writer, which may go on, and is done then.
func TestCut(t *testing.T) {
	a := key("a")
	for _, one := range []struct {
		calls, rest []call
		want        string
	}{
		{nil, all(null), "null"},
		{nil, all(text("")), `""`},
		{nil, all(list, end), "[]"},
		{all(list), all(end), "[]"},
		{all(object), all(end), "{}"},
		{all(list, null), all(end), "[null]"},
		{all(list, null), all(null, end), "[null,null]"},
		{all(object, a), all(null, end), `{"a":null}`},
		{all(object, a, null), all(end), `{"a":null}`},
		{all(object, a, null), all(a, null, end), `{"a":null,"a":null}`},
		{all(object, a, null, key("b")), all(list, end, end), `{"a":null,"b":[]}`},
		{all(object, a, list), all(end, end), `{"a":[]}`},
		{all(object, a, list, end), all(end), `{"a":[]}`},
		{all(object, a, list, null), all(null, end, end), `{"a":[null,null]}`},
		{all(list, list, end), all(list, end, end), "[[],[]]"},
		{all(list, object, a), all(object, end, end, end), `[{"a":{}}]`},
		{all(list, object, end), all(end), "[{}]"},
		{times(32, list), times(32, end), strings.Repeat("[", 32) + strings.Repeat("]", 32)},
		{all(times(32, list), times(31, end)), all(end), strings.Repeat("[", 32) + strings.Repeat("]", 32)},
	} {
		w := written(one.calls)
		for range 3 {
			wantDone(t, w, one.calls, "", api.ErrCut)
		}
		tell(w, one.rest)
		for range 3 {
			wantDone(t, w, all(one.calls, one.rest), one.want, api.OK)
		}
		null.do(w)
		wantDone(t, w, all(one.calls, one.rest, null), "", api.ErrOrder)
	}
}

// 15.3: what Done told once stays as it was, whatever is told, or asked, behind it.
func TestDoneStays(t *testing.T) {
	for _, one := range single {
		w := written(all(list, one.call, end))
		first, code := w.Done()
		if code != api.OK {
			t.Fatal(one.name, code)
		}
		second, _ := w.Done()
		tell(w, anything())
		third, code := w.Done()
		if want := "[" + one.want + "]"; first != want || second != want || third != "" || code != api.ErrOrder {
			t.Errorf("%s: %q, %q, %q, %d", one.name, first, second, third, code)
		}
	}
}

// 15.1: writers have nothing to do with each other: each writes what it would write alone, in whatever turns they are told.
func TestSideBySide(t *testing.T) {
	parts := [][]call{
		nil,
		all(null),
		all(list, whole(1), whole(2), end),
		all(object, key("a"), list, null, end, key("b"), text("c"), end),
		all(list, list, object, key("z"), flag(true), end, end, flag(false), end),
		all(times(32, list), times(32, end)),
		all(times(33, list), times(32, end)),
		all(null, null),
		all(object, null, end),
		all(list, end, end),
		all(list, text(strings.Repeat("a", 1000)), end),
	}
	for _, one := range parts {
		for _, other := range parts {
			v, w := jwrite.New(), jwrite.New()
			if v == w {
				t.Fatal("New tells one writer twice")
			}
			m, n := &model{}, &model{}
			for i := range max(len(one), len(other)) {
				if i < len(one) {
					m.tell(one[i])
					one[i].do(v)
				}
				if i < len(other) {
					n.tell(other[i])
					other[i].do(w)
				}
			}
			want, code := m.done()
			wantDone(t, v, one, want, code)
			want, code = n.done()
			wantDone(t, w, other, want, code)
		}
	}
}

// 15.1: a new writer wrote nothing, whatever others wrote ahead of it.
func TestNew(t *testing.T) {
	for _, one := range faults {
		written(one.calls)
		wantFail(t, nil, api.ErrCut)
		wantWritten(t, all(null), "null")
	}
}

// 15.3: a writer that is nil does nothing, and its Done is ErrNone; one that New did not make does not panic.
func TestNil(t *testing.T) {
	calls := all(anything(), key(""), text(""), whole(0), flag(false), object, end)
	var none *jwrite.Writer
	wantDone(t, none, nil, "", api.ErrNone)
	for i, c := range calls {
		c.do(none)
		for range 2 {
			wantDone(t, none, calls[:i+1], "", api.ErrNone)
		}
		var other jwrite.Writer
		c.do(&other)
		tell(&other, calls)
		if s, code := other.Done(); s != "" || code == api.OK {
			t.Errorf("a writer that New did not make: %q, %d", s, code)
		}
	}
}

// 15.1: much is written: long texts and keys, and many values and members.
func TestLong(t *testing.T) {
	const count = 200000
	s := strings.Repeat("a\"\x00\xf0\x9f\x98\x80", count)
	laid := `"` + strings.Repeat("a\\\"\\u0000\xf0\x9f\x98\x80", count) + `"`
	wantWritten(t, all(text(s)), laid)
	wantWritten(t, all(object, key(s), text(s), end), "{"+laid+":"+laid+"}")
	wantWritten(t, all(list, times(count, whole(-12)), end), "["+strings.Repeat(",-12", count)[1:]+"]")
	wantWritten(t, all(list, times(count, object, end), end), "["+strings.Repeat(",{}", count)[1:]+"]")
	wantWritten(t, all(object, times(count, key("k"), list, text("v"), end), end), "{"+strings.Repeat(`,"k":["v"]`, count)[1:]+"}")
	wantFail(t, all(list, times(count, null), end, end), api.ErrOrder)
	wantFail(t, all(object, times(count, key("k"), null), null, end), api.ErrOrder)
}
