package json

import (
	stdjson "encoding/json"
	"fmt"
	"math/big"
	"math/rand"
	"reflect"
	"regexp"
	"sort"
	"strconv"
	"strings"
	"testing"

	"freehold/api"
	"freehold/quote"
)

// What the tests hold the package against, written from the words of the document in other ways than the package's own.

func num(n int) api.Value                 { return api.Value{Kind: api.Int, Int: n} }
func boolean(b bool) api.Value            { return api.Value{Kind: api.Bool, Bool: b} }
func text(s string) api.Value             { return api.Value{Kind: api.Str, Str: s} }
func list(l ...api.Value) api.Value       { return api.Value{Kind: api.List, List: l} }
func object(l ...api.Member) api.Value    { return api.Value{Kind: api.Map, Map: l} }
func at(k string, v api.Value) api.Member { return api.Member{Key: k, Val: v} }

var null = api.Value{}

// lists is a value in so many lists, one in the other.
func lists(n int, v api.Value) api.Value {
	for range n {
		v = list(v)
	}
	return v
}

// maps is a value in so many maps, one in the other.
func maps(n int, v api.Value) api.Value {
	for range n {
		v = object(at("k", v))
	}
	return v
}

// brackets is a text in so many lists, one in the other.
func brackets(n int, s string) string {
	return strings.Repeat("[", n) + s + strings.Repeat("]", n)
}

// wantPrint is a good value's canonical text.
func wantPrint(v api.Value) string {
	var parts []string
	switch v.Kind {
	case api.Null:
		return "null"
	case api.Bool:
		return map[bool]string{false: "false", true: "true"}[v.Bool]
	case api.Int:
		return big.NewInt(int64(v.Int)).String()
	case api.Str:
		return quoted(v.Str)
	case api.List:
		for _, x := range v.List {
			parts = append(parts, wantPrint(x))
		}
		return "[" + strings.Join(parts, ",") + "]"
	case api.Map:
		for _, x := range v.Map {
			parts = append(parts, quoted(x.Key)+":"+wantPrint(x.Val))
		}
		return "{" + strings.Join(parts, ",") + "}"
	}
	panic("no kind")
}

func quoted(s string) string {
	q, e := quote.Quote(s)
	if e != api.OK {
		panic("no UTF-8")
	}
	return q
}

// holder is a list or a map that is being read.
type holder struct {
	list []api.Value
	keys map[string]api.Value
	key  string
}

func (h *holder) add(v api.Value) {
	if h.keys != nil {
		h.keys[h.key] = v
	} else {
		h.list = append(h.list, v)
	}
}

func (h *holder) done() api.Value {
	if h.keys == nil {
		return list(h.list...)
	}
	v := object()
	for k, x := range h.keys {
		v.Map = append(v.Map, at(k, x))
	}
	sort.Slice(v.Map, func(i, k int) bool { return v.Map[i].Key < v.Map[k].Key })
	return v
}

// reading is one reading of a text by a pile of what is awaited.
type reading struct {
	text  string
	at    int
	depth int
	nodes int
	pile  []byte    // what is awaited, the next one on top: v: a value; e: an element or the end; k: a key or the end; K: a key; a colon; a bracket: that, or a comma
	holds []*holder // open brackets, the innermost last; the first one holds the whole
}

var (
	blankRun  = regexp.MustCompile(`^[ \t\n\r]*`)
	numberRun = regexp.MustCompile(`^[0-9+.eE-]+`)
	isInteger = regexp.MustCompile(`^-?(0|[1-9][0-9]*)$`)
)

func wantParse(s string, depth int) (api.Value, int, api.Errno) {
	switch {
	case depth < 0 || depth > 40:
		return null, 0, api.ErrArg
	case len(s) > 1048576:
		return null, 0, api.ErrTextLong
	}
	r := &reading{text: s, depth: depth, holds: []*holder{{}}}
	r.await("v")
	for len(r.pile) > 0 {
		r.at += len(blankRun.FindString(s[r.at:]))
		if r.at == len(s) {
			return null, r.at, api.ErrTextEnd
		}
		if e := r.step(); e != api.OK {
			return null, r.at, e
		}
	}
	r.at += len(blankRun.FindString(s[r.at:]))
	if r.at < len(s) {
		return null, r.at, api.ErrTextMore
	}
	return r.holds[0].list[0], -1, api.OK
}

func (r *reading) top() *holder { return r.holds[len(r.holds)-1] }

func (r *reading) await(sorts string) {
	for i := len(sorts) - 1; i >= 0; i-- {
		r.pile = append(r.pile, sorts[i])
	}
}

// step reads what lies on top of the pile.
func (r *reading) step() api.Errno {
	next, c := r.pile[len(r.pile)-1], r.text[r.at]
	r.pile = r.pile[:len(r.pile)-1]
	switch {
	case next == 'e' && c == ']', next == 'k' && c == '}', next == ']' && c == ']', next == '}' && c == '}':
		r.at++
		v := r.top().done()
		r.holds = r.holds[:len(r.holds)-1]
		r.top().add(v)
		return api.OK
	case next == ']' && c == ',':
		r.at++
		r.await("v]")
		return api.OK
	case next == '}' && c == ',':
		r.at++
		r.await("K")
		return api.OK
	case next == 'e':
		r.await("v]")
		return api.OK
	case next == 'v':
		return r.value(c)
	case next == ':' && c == ':':
		r.at++
		return api.OK
	case (next == 'k' || next == 'K') && c == '"':
		return r.key()
	}
	return api.ErrTextByte
}

func (r *reading) value(c byte) api.Errno {
	words := map[byte]string{'n': "null", 't': "true", 'f': "false"}
	run := numberRun.FindString(r.text[r.at:])
	if words[c] == "" && c != '"' && c != '[' && c != '{' && run == "" {
		return api.ErrTextByte
	}
	if r.nodes++; r.nodes > 65536 {
		return api.ErrNodes
	}
	if len(r.holds)-1 == r.depth+1 {
		return api.ErrDeep
	}
	switch {
	case c == '[':
		r.at++
		r.holds = append(r.holds, &holder{})
		r.await("e")
	case c == '{':
		r.at++
		r.holds = append(r.holds, &holder{keys: map[string]api.Value{}})
		r.await("k")
	case c == '"':
		s, to, e := quote.Unquote(r.text, r.at)
		r.at = to
		if e != api.OK {
			return e
		}
		r.top().add(text(s))
	case run != "":
		n, ok := new(big.Int).SetString(run, 10)
		if !isInteger.MatchString(run) || !ok || !n.IsInt64() {
			return api.ErrTextNum
		}
		r.at += len(run)
		r.top().add(num(int(n.Int64())))
	default:
		return r.word(words[c])
	}
	return api.OK
}

func (r *reading) word(w string) api.Errno {
	for len(w) > 0 {
		if r.at == len(r.text) {
			return api.ErrTextEnd
		}
		if r.text[r.at] != w[0] {
			return api.ErrTextByte
		}
		r.at, w = r.at+1, w[1:]
	}
	switch r.text[r.at-2 : r.at] {
	case "ll":
		r.top().add(null)
	case "ue":
		r.top().add(boolean(true))
	case "se":
		r.top().add(boolean(false))
	}
	return api.OK
}

func (r *reading) key() api.Errno {
	k, to, e := quote.Unquote(r.text, r.at)
	if e != api.OK {
		r.at = to
		return e
	}
	if _, twice := r.top().keys[k]; twice {
		return api.ErrTextKey
	}
	r.at, r.top().key = to, k
	r.await(":v}")
	return api.OK
}

// fromLibrary is what the standard library read, as a value; false, if it has a number that is none here.
func fromLibrary(x any) (api.Value, bool) {
	switch x := x.(type) {
	case bool:
		return boolean(x), true
	case stdjson.Number:
		n, err := strconv.ParseInt(x.String(), 10, 64)
		return num(int(n)), err == nil
	case string:
		return text(x), true
	case []any:
		v := list()
		for _, y := range x {
			w, ok := fromLibrary(y)
			if !ok {
				return null, false
			}
			v.List = append(v.List, w)
		}
		return v, true
	case map[string]any:
		h := holder{keys: map[string]api.Value{}}
		for k, y := range x {
			w, ok := fromLibrary(y)
			if !ok {
				return null, false
			}
			h.keys[k] = w
		}
		return h.done(), true
	}
	return null, true
}

// pick makes values of few parts, so that two of them are often alike in much.
func pick(r *rand.Rand, depth int) api.Value {
	n := 8
	if depth == 0 {
		n = 6
	}
	switch r.Intn(n) {
	case 0:
		return null
	case 1:
		return boolean(r.Intn(2) == 0)
	case 2:
		return num([]int{0, 1, -1, 10, -20, 1<<63 - 1, -1 << 63, r.Int()}[r.Intn(8)])
	case 3:
		return text(pickKey(r))
	case 4:
		return list()
	case 5:
		return object()
	case 6:
		v := list()
		for range r.Intn(4) {
			v.List = append(v.List, pick(r, depth-1))
		}
		return v
	}
	h := holder{keys: map[string]api.Value{}}
	for range r.Intn(4) {
		h.keys[pickKey(r)] = pick(r, depth-1)
	}
	return h.done()
}

func pickKey(r *rand.Rand) string {
	return []string{"", "\x00", "a", "a\x00", "ab", "\n\"\\", "null", "\u00e9", "\uffff", "\U0001f600"}[r.Intn(10)]
}

// tokens cuts a text of a value into what no blank may part.
func tokens(s string) []string {
	return regexp.MustCompile(`"(\\.|[^"\\])*"|[0-9+.eE-]+|[a-z]+|[][{},:]`).FindAllString(s, -1)
}

// loosely is a text of a value: any blanks, the members in any order, its strings in any escapes.
func loosely(r *rand.Rand, v api.Value) string {
	s := blank(r)
	switch v.Kind {
	case api.Str:
		s += escaped(r, v.Str)
	case api.List:
		var parts []string
		for _, x := range v.List {
			parts = append(parts, loosely(r, x))
		}
		s += "[" + blank(r) + strings.Join(parts, ",") + "]"
	case api.Map:
		parts := make([]string, len(v.Map))
		for i, k := range r.Perm(len(v.Map)) {
			parts[i] = blank(r) + escaped(r, v.Map[k].Key) + blank(r) + ":" + loosely(r, v.Map[k].Val)
		}
		s += "{" + blank(r) + strings.Join(parts, ",") + "}"
	default:
		s += wantPrint(v)
	}
	return s + blank(r)
}

func blank(r *rand.Rand) string {
	return []string{"", "", "", "", " ", "\t", "\n", "\r", " \n\t\r "}[r.Intn(9)]
}

func escaped(r *rand.Rand, s string) string {
	out := ""
	for _, c := range s {
		switch {
		case r.Intn(3) > 0:
			q := quoted(string(c))
			out += q[1 : len(q)-1]
		case c > 0xffff:
			out += fmt.Sprintf(`\u%04x\u%04x`, 0xd800+(c-0x10000)>>10, 0xdc00+(c-0x10000)&1023)
		default:
			out += fmt.Sprintf(`\u%04X`, c)
		}
	}
	return `"` + out + `"`
}

// spoil puts members or some bytes in, takes some out, or cuts a text off.
func spoil(r *rand.Rand, s string) string {
	i, k := r.Intn(len(s)+1), r.Intn(len(s)+1)
	piece := []string{",", "]", "}", "[", "{", ":", `"`, " ", "1", "-", "0", "x", "\xff", "\x00", "null", "tru", "e", `\`, `"a":1,`, `"a"`, "{}", "1,"}[r.Intn(22)]
	switch r.Intn(5) {
	case 0:
		return strings.Replace(s, "{", `{"a":1,"":2,`, 1+r.Intn(3))
	case 1:
		return s[:i] + piece + s[i:]
	case 2:
		return s[:min(i, k)] + s[max(i, k):]
	case 3:
		return s[:i]
	}
	return s[:min(i, k)] + piece + s[max(i, k):]
}

// room is the memory of a list, its spare room too.
type room struct{ from, to uintptr }

func rooms(v api.Value) []room {
	l := append(roomOf(v.List), roomOf(v.Map)...)
	for _, x := range v.List {
		l = append(l, rooms(x)...)
	}
	for _, x := range v.Map {
		l = append(l, rooms(x.Val)...)
	}
	return l
}

func roomOf(l any) []room {
	v := reflect.ValueOf(l)
	if v.Cap() == 0 {
		return nil
	}
	return []room{{v.Pointer(), v.Pointer() + uintptr(v.Cap())*v.Type().Elem().Size()}}
}

// checkApart holds rooms against each other: no two may have memory in common.
func checkApart(t *testing.T, what string, l []room) {
	t.Helper()
	sort.Slice(l, func(i, k int) bool { return l[i].from < l[k].from })
	for i := 1; i < len(l); i++ {
		if l[i].from < l[i-1].to {
			t.Errorf("P3.8: %s: two lists share memory", what)
			return
		}
	}
}

// roomy is a value in memory of its own whose lists have spare room, with something in it.
func roomy(v api.Value) api.Value {
	var l []api.Value
	for _, x := range v.List {
		l = append(l, roomy(x))
	}
	var m []api.Member
	for _, x := range v.Map {
		m = append(m, at(x.Key, roomy(x.Val)))
	}
	v.List = append(l, num(77), num(78))[:len(l)]
	v.Map = append(m, at("spare", num(79)))[:len(m)]
	return v
}

// whole is a value with the spare room of its lists told as if it were part of them.
func whole(v api.Value) api.Value {
	v.List, v.Map = v.List[:cap(v.List)], v.Map[:cap(v.Map)]
	var l []api.Value
	for _, x := range v.List {
		l = append(l, whole(x))
	}
	var m []api.Member
	for _, x := range v.Map {
		m = append(m, at(x.Key, whole(x.Val)))
	}
	v.List, v.Map = l, m
	return v
}

// same tells whether two values are the same in kind and content.
func same(a, b api.Value) bool {
	if a.Kind != b.Kind || a.Bool != b.Bool || a.Int != b.Int || a.Str != b.Str || len(a.List) != len(b.List) || len(a.Map) != len(b.Map) {
		return false
	}
	for i := range a.List {
		if !same(a.List[i], b.List[i]) {
			return false
		}
	}
	for i := range a.Map {
		if a.Map[i].Key != b.Map[i].Key || !same(a.Map[i].Val, b.Map[i].Val) {
			return false
		}
	}
	return true
}
