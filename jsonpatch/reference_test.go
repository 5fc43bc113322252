package jsonpatch

import (
	"fmt"
	"maps"
	"math/big"
	"math/rand"
	"reflect"
	"regexp"
	"slices"
	"sort"
	"strings"
	"testing"
	"unicode/utf8"

	"freehold/api"
	"freehold/json"
	"freehold/value"
)

// What the tests hold the package against, written from the words of the document and of RFC 6902 in other ways than the package's own: a value is a tree of nodes, changed where it lies; what an Op uses is a word in a table; a patch between two values is worked out with texts of places and the language's maps.

func num(n int) api.Value                 { return api.Value{Kind: api.Int, Int: n} }
func text(s string) api.Value             { return api.Value{Kind: api.Str, Str: s} }
func list(l ...api.Value) api.Value       { return api.Value{Kind: api.List, List: l} }
func object(l ...api.Member) api.Value    { return api.Value{Kind: api.Map, Map: l} }
func at(k string, v api.Value) api.Member { return api.Member{Key: k, Val: v} }
func nulls(n int) api.Value               { return list(make([]api.Value, n)...) }

func adds(p string, x api.Value) api.Step     { return api.Step{Op: "add", Path: p, Value: x} }
func removes(p string) api.Step               { return api.Step{Op: "remove", Path: p} }
func replaces(p string, x api.Value) api.Step { return api.Step{Op: "replace", Path: p, Value: x} }
func moves(from, p string) api.Step           { return api.Step{Op: "move", From: from, Path: p} }
func copies(from, p string) api.Step          { return api.Step{Op: "copy", From: from, Path: p} }
func tests(p string, x api.Value) api.Step    { return api.Step{Op: "test", Path: p, Value: x} }

var (
	null = api.Value{}
	bad  = api.Value{Kind: 9}
)

// lists is a value in so many lists, one in the other.
func lists(n int, v api.Value) api.Value {
	for range n {
		v = list(v)
	}
	return v
}

// keyed is a map of so many members with the same value, whose keys have one beginning and one length.
func keyed(n int, begin string, x api.Value) api.Value {
	v := object()
	for i := range n {
		v.Map = append(v.Map, at(fmt.Sprintf("%s%06d", begin, i), x))
	}
	return v
}

// read is the value of a text.
func read(s string) api.Value {
	v, _, e := json.Parse([]byte(s), api.DeepRecord)
	if e != api.OK {
		panic(s)
	}
	return v
}

// show is a value as a test tells it.
func show(v api.Value) string {
	b, e := json.Print(v, api.DeepRecord)
	if e != api.OK || len(b) > 300 {
		return fmt.Sprintf("a value of the kind %d (%d)", v.Kind, e)
	}
	return string(b)
}

// tell is a patch as a test tells it.
func tell(l []api.Step) string {
	var s []string
	for _, x := range l {
		s = append(s, fmt.Sprintf("%.20q %.60q %.60q %s", x.Op, x.Path, x.From, show(x.Value)))
	}
	if len(s) > 12 {
		s = append(s[:12], fmt.Sprintf("and %d more", len(l)-12))
	}
	return strings.Join(s, "; ")
}

// uses is what a step of each Op has beside its path.
var uses = map[string]string{"add": "value", "remove": "", "replace": "value", "move": "from", "copy": "from", "test": "value"}

var (
	isPointer = regexp.MustCompile(`^(?s:(/([^/~]|~0|~1)*)*)$`)
	isNumber  = regexp.MustCompile(`^(0|[1-9][0-9]*)$`)
)

func pointing(p string) bool { return utf8.ValidString(p) && isPointer.MatchString(p) }

// tokensOf is the tokens of a pointer.
func tokensOf(p string) []string {
	var l []string
	for _, s := range strings.Split(p, "/")[1:] {
		l = append(l, strings.NewReplacer("~0", "~", "~1", "/").Replace(s))
	}
	return l
}

func escaped(token string) string {
	return "/" + strings.NewReplacer("~", "~0", "/", "~1").Replace(token)
}

func pointerOf(l ...string) string {
	p := ""
	for _, s := range l {
		p += escaped(s)
	}
	return p
}

// members is what a map has, by key.
func members(v api.Value) map[string]api.Value {
	m := map[string]api.Value{}
	for _, x := range v.Map {
		m[x.Key] = x.Val
	}
	return m
}

// made is the map of some members.
func made(m map[string]api.Value) api.Value {
	v := object()
	for _, k := range slices.Sorted(maps.Keys(m)) {
		v.Map = append(v.Map, at(k, m[k]))
	}
	return v
}

func wantParse(v api.Value) ([]api.Step, int, api.Errno) {
	if e := value.Check(v, 40); e != api.OK {
		return nil, -1, e
	}
	if v.Kind != api.List {
		return nil, -1, api.ErrPatchShape
	}
	if len(v.List) > 256 {
		return nil, -1, api.ErrPatchSteps
	}
	var l []api.Step
	for i, x := range v.List {
		m := members(x)
		need, known := uses[m["op"].Str]
		strs := []string{"op", "path"}
		if need == "from" {
			strs = append(strs, "from")
		}
		_, has := m[need]
		fault := !known || !has && need != ""
		for _, k := range strs {
			fault = fault || m[k].Kind != api.Str
		}
		if fault {
			return nil, i, api.ErrPatchShape
		}
		s := api.Step{Op: m["op"].Str, Path: m["path"].Str}
		switch need {
		case "from":
			s.From = m["from"].Str
		case "value":
			s.Value = m["value"]
		}
		if !pointing(s.Path) || !pointing(s.From) {
			return nil, i, api.ErrPointer
		}
		if e := value.Check(s.Value, 32); e != api.OK {
			return nil, i, e
		}
		l = append(l, s)
	}
	return l, -1, api.OK
}

// fault is why a step may not be.
func fault(s api.Step) api.Errno {
	need, known := uses[s.Op]
	switch {
	case !known, need != "from" && len(s.From) > 0, need != "value" && !same(s.Value, null):
		return api.ErrPatchShape
	case !pointing(s.Path), !pointing(s.From):
		return api.ErrPointer
	}
	return value.Check(s.Value, 32)
}

func wantPrint(l []api.Step) (api.Value, int, api.Errno) {
	if len(l) > 256 {
		return null, -1, api.ErrPatchSteps
	}
	v := list()
	for i, s := range l {
		if e := fault(s); e != api.OK {
			return null, i, e
		}
		m := map[string]api.Value{"op": text(s.Op), "path": text(s.Path)}
		switch uses[s.Op] {
		case "from":
			m["from"] = text(s.From)
		case "value":
			m["value"] = s.Value
		}
		v.List = append(v.List, made(m))
	}
	if e := value.Check(v, 40); e != api.OK {
		return null, -1, e
	}
	return v, -1, api.OK
}

// node is a value that can be changed where it lies.
type node struct {
	leaf api.Value // what is neither a list nor a map
	kind int
	list []*node
	keys map[string]*node
}

func grow(v api.Value) *node {
	n := &node{leaf: v, kind: v.Kind, keys: map[string]*node{}}
	for _, x := range v.List {
		n.list = append(n.list, grow(x))
	}
	for _, x := range v.Map {
		n.keys[x.Key] = grow(x.Val)
	}
	return n
}

func (n *node) value() api.Value {
	switch n.kind {
	case api.List:
		v := list()
		for _, x := range n.list {
			v.List = append(v.List, x.value())
		}
		return v
	case api.Map:
		v := object()
		for _, k := range slices.Sorted(maps.Keys(n.keys)) {
			v.Map = append(v.Map, at(k, n.keys[k].value()))
		}
		return v
	}
	return n.leaf
}

// numbered is the number that a token says, if it is from 0 to most; else -1.
func numbered(token string, most int) int {
	n, _ := new(big.Int).SetString(token, 10)
	if !isNumber.MatchString(token) || n.Cmp(big.NewInt(int64(most))) > 0 {
		return -1
	}
	return int(n.Int64())
}

func (n *node) kid(token string) (*node, api.Errno) {
	switch n.kind {
	case api.List:
		if i := numbered(token, len(n.list)-1); i >= 0 {
			return n.list[i], api.OK
		}
		return nil, api.ErrIndex
	case api.Map:
		if x := n.keys[token]; x != nil {
			return x, api.OK
		}
	}
	return nil, api.ErrPlace
}

func (n *node) down(l []string) (*node, api.Errno) {
	for _, token := range l {
		x, e := n.kid(token)
		if e != api.OK {
			return nil, e
		}
		n = x
	}
	return n, api.OK
}

// above is what all tokens but the last lead to, and the last.
func (n *node) above(l []string) (*node, string, api.Errno) {
	x, e := n.down(l[:len(l)-1])
	return x, l[len(l)-1], e
}

func (n *node) add(l []string, x api.Value) api.Errno {
	if len(l) == 0 {
		*n = *grow(x)
		return api.OK
	}
	w, last, e := n.above(l)
	if e != api.OK {
		return e
	}
	switch w.kind {
	case api.Map:
		w.keys[last] = grow(x)
		return api.OK
	case api.List:
		i := numbered(last, len(w.list))
		if last == "-" {
			i = len(w.list)
		}
		if i < 0 {
			return api.ErrIndex
		}
		w.list = slices.Insert(w.list, i, grow(x))
		return api.OK
	}
	return api.ErrPlace
}

func (n *node) take(l []string) (api.Value, api.Errno) {
	if len(l) == 0 {
		return null, api.ErrPlace
	}
	w, last, e := n.above(l)
	if e != api.OK {
		return null, e
	}
	x, e := w.kid(last)
	if e != api.OK {
		return null, e
	}
	delete(w.keys, last)
	w.list = slices.DeleteFunc(w.list, func(y *node) bool { return x == y })
	return x.value(), api.OK
}

func (n *node) do(s api.Step) api.Errno {
	path, from := tokensOf(s.Path), tokensOf(s.From)
	switch s.Op {
	case "add":
		return n.add(path, s.Value)
	case "remove":
		_, e := n.take(path)
		return e
	case "replace":
		w, e := n.down(path)
		if e == api.OK {
			*w = *grow(s.Value)
		}
		return e
	case "move":
		if len(from) < len(path) && slices.Equal(from, path[:len(from)]) {
			return api.ErrPatchMove
		}
		x, e := n.take(from)
		if e != api.OK {
			return e
		}
		return n.add(path, x)
	case "copy":
		w, e := n.down(from)
		if e != api.OK {
			return e
		}
		return n.add(path, w.value())
	}
	w, e := n.down(path)
	if e == api.OK && !same(w.value(), s.Value) {
		return api.ErrPatchTest
	}
	return e
}

func wantApply(v api.Value, l []api.Step) (api.Value, int, api.Errno) {
	if e := value.Check(v, 32); e != api.OK {
		return null, -1, e
	}
	if len(l) > 256 {
		return null, -1, api.ErrPatchSteps
	}
	n := grow(v)
	for i, s := range l {
		e := fault(s)
		if e == api.OK {
			e = n.do(s)
		}
		for _, depth := range []int{40, 32} { // pointer's own look at what it makes, then the patch's
			if e == api.OK {
				e = value.Check(n.value(), depth)
			}
		}
		if e != api.OK {
			return null, i, e
		}
	}
	return n.value(), -1, api.OK
}

// steps is the patch from a to b at a place, word by word.
func steps(p string, a, b api.Value) []api.Step {
	var l []api.Step
	switch {
	case same(a, b):
		return nil
	case a.Kind == api.Map && b.Kind == api.Map:
		had, has := members(a), members(b)
		gone := maps.Clone(had)
		maps.DeleteFunc(gone, func(k string, _ api.Value) bool { _, there := has[k]; return there })
		for _, k := range slices.Backward(slices.Sorted(maps.Keys(gone))) {
			l = append(l, removes(p+escaped(k)))
		}
		for _, k := range slices.Sorted(maps.Keys(has)) {
			if x, there := had[k]; there {
				l = append(l, steps(p+escaped(k), x, has[k])...)
			} else {
				l = append(l, adds(p+escaped(k), has[k]))
			}
		}
	case a.Kind == api.List && b.Kind == api.List:
		x, y, k := a.List, b.List, 0
		for len(x) > 0 && len(y) > 0 && same(x[0], y[0]) {
			x, y, k = x[1:], y[1:], k+1
		}
		for len(x) > 0 && len(y) > 0 && same(x[len(x)-1], y[len(y)-1]) {
			x, y = x[:len(x)-1], y[:len(y)-1]
		}
		for i := range min(len(x), len(y)) {
			l = append(l, steps(fmt.Sprintf("%s/%d", p, k+i), x[i], y[i])...)
		}
		for i := len(x) - 1; i >= len(y); i-- {
			l = append(l, removes(fmt.Sprintf("%s/%d", p, k+i)))
		}
		for i := len(x); i < len(y); i++ {
			l = append(l, adds(fmt.Sprintf("%s/%d", p, k+i), y[i]))
		}
	default:
		l = append(l, replaces(p, b))
	}
	return l
}

func wantDiff(a, b api.Value) ([]api.Step, api.Errno) {
	for _, v := range []api.Value{a, b} {
		if e := value.Check(v, 32); e != api.OK {
			return nil, e
		}
	}
	l := steps("", a, b)
	if len(l) > 256 {
		return nil, api.ErrPatchSteps
	}
	return l, api.OK
}

// alike tells whether two patches are the same.
func alike(l, m []api.Step) bool {
	return slices.EqualFunc(l, m, func(a, b api.Step) bool {
		return a.Op == b.Op && a.Path == b.Path && a.From == b.From && same(a.Value, b.Value)
	})
}

// pick makes values of few parts.
func pick(r *rand.Rand, depth int) api.Value {
	n := 11
	if depth == 0 {
		n = 4
	}
	switch k := r.Intn(n); {
	case k == 0:
		return null
	case k == 1:
		return api.Value{Kind: api.Bool, Bool: r.Intn(2) == 0}
	case k == 2:
		return num(r.Intn(3))
	case k == 3:
		return text(pickToken(r))
	case k < 7:
		v := list()
		for range r.Intn(6) {
			v.List = append(v.List, pick(r, depth-1))
		}
		return v
	}
	m := map[string]api.Value{}
	for range r.Intn(6) {
		m[pickToken(r)] = pick(r, depth-1)
	}
	return made(m)
}

func pickToken(r *rand.Rand) string {
	return []string{"", "a", "ab", "a/b", "~", "/", "~1", "0", "1", "-", "b", "\u00e9", "\x00", "\U0001f600"}[r.Intn(14)]
}

// near is a value with some of its parts changed.
func near(r *rand.Rand, v api.Value, depth int) api.Value {
	if v.Kind < api.List || depth == 0 || r.Intn(12) == 0 {
		if r.Intn(3) > 0 {
			return v
		}
		return pick(r, depth)
	}
	if v.Kind == api.List {
		w := list()
		for _, x := range v.List {
			if r.Intn(6) == 0 {
				w.List = append(w.List, pick(r, depth-1))
			}
			if r.Intn(6) > 0 {
				w.List = append(w.List, near(r, x, depth-1))
			}
		}
		return w
	}
	m := map[string]api.Value{}
	for _, x := range v.Map {
		if r.Intn(5) > 0 {
			m[x.Key] = near(r, x.Val, depth-1)
		}
	}
	if r.Intn(3) == 0 {
		m[pickToken(r)] = pick(r, depth-1)
	}
	return made(m)
}

// places is the tokens of every place of a value, the root first.
func places(v api.Value) [][]string {
	all := [][]string{nil}
	for i, x := range v.List {
		for _, l := range places(x) {
			all = append(all, append([]string{fmt.Sprint(i)}, l...))
		}
	}
	for _, m := range v.Map {
		for _, l := range places(m.Val) {
			all = append(all, append([]string{m.Key}, l...))
		}
	}
	return all
}

// pickPlace makes a pointer to a place of a value, or to one beside or below it.
func pickPlace(r *rand.Rand, v api.Value) string {
	all := places(v)
	l := slices.Clone(all[r.Intn(len(all))])
	switch r.Intn(9) {
	case 0:
		l = append(l, pickToken(r))
	case 1:
		if len(l) > 0 {
			l[len(l)-1] = pickToken(r)
		}
	case 2:
		l = append(l, fmt.Sprint(r.Intn(6)))
	case 3:
		l = append(l, "-")
	}
	return pointerOf(l...)
}

// pickStep makes a step for a value, which may come to nothing.
func pickStep(r *rand.Rand, v api.Value) api.Step {
	s := api.Step{Op: slices.Sorted(maps.Keys(uses))[r.Intn(6)], Path: pickPlace(r, v)}
	switch uses[s.Op] {
	case "from":
		s.From = pickPlace(r, v)
		if r.Intn(8) == 0 {
			s.Path = s.From + []string{"", "/0", "/a", "b", "/-"}[r.Intn(5)]
		}
	case "value":
		s.Value = pick(r, 2)
		if w, e := grow(v).down(tokensOf(s.Path)); e == api.OK && r.Intn(3) > 0 && s.Op == "test" {
			s.Value = w.value()
		}
	}
	return s
}

// pickPatch makes a patch for a value, most of whose steps can be done.
func pickPatch(r *rand.Rand, v api.Value, n int) []api.Step {
	var l []api.Step
	for range n {
		s := pickStep(r, v)
		w, _, e := wantApply(v, []api.Step{s})
		if e == api.OK {
			v = w
		} else if r.Intn(8) > 0 {
			continue
		}
		l = append(l, s)
	}
	return l
}

// spoil changes a step so that it may well be none.
func spoil(r *rand.Rand, s api.Step) api.Step {
	switch r.Intn(9) {
	case 0:
		s.Op = []string{"", "put", "Add", "add ", "tests", "\xff"}[r.Intn(6)]
	case 1:
		s.Path = []string{"a", "/~", "/a~2", "/\xff", " /", "a/b"}[r.Intn(6)]
	case 2:
		s.From = []string{"a", "/~", "/a~2", "/\xff", "/", "/a"}[r.Intn(6)]
	case 3:
		s.Value = []api.Value{num(1), bad, text("\xff"), lists(33, null), lists(32, null), {Bool: true}, {Kind: api.Null, Str: "x"}}[r.Intn(7)]
	case 4:
		s.Value = api.Value{}
	case 5:
		s.From = ""
	case 6:
		s.Op = slices.Sorted(maps.Keys(uses))[r.Intn(6)]
	}
	return s
}

// room is the memory of a list, its spare room too.
type room struct{ from, to uintptr }

func rooms(v api.Value) []room {
	l := append(roomOf(v.List), roomOf(v.Map)...)
	for _, x := range v.List {
		l = append(l, rooms(x)...)
	}
	for _, x := range v.Map {
		l = append(l, rooms(x.Val)...)
	}
	return l
}

func roomOf(l any) []room {
	v := reflect.ValueOf(l)
	if v.Cap() == 0 {
		return nil
	}
	return []room{{v.Pointer(), v.Pointer() + uintptr(v.Cap())*v.Type().Elem().Size()}}
}

// checkApart holds rooms against each other: no two may have memory in common.
func checkApart(t *testing.T, what string, l []room) {
	t.Helper()
	sort.Slice(l, func(i, k int) bool { return l[i].from < l[k].from })
	for i := 1; i < len(l); i++ {
		if l[i].from < l[i-1].to {
			t.Errorf("%s: two lists share memory", what)
			return
		}
	}
}

// roomy is a value in memory of its own whose lists have spare room, with something in it.
func roomy(v api.Value) api.Value {
	var l []api.Value
	for _, x := range v.List {
		l = append(l, roomy(x))
	}
	var m []api.Member
	for _, x := range v.Map {
		m = append(m, at(x.Key, roomy(x.Val)))
	}
	v.List = append(l, num(77), num(78))[:len(l)]
	v.Map = append(m, at("spare", num(79)))[:len(m)]
	return v
}

// whole is a value with the spare room of its lists told as if it were part of them.
func whole(v api.Value) api.Value {
	v.List, v.Map = v.List[:cap(v.List)], v.Map[:cap(v.Map)]
	var l []api.Value
	for _, x := range v.List {
		l = append(l, whole(x))
	}
	var m []api.Member
	for _, x := range v.Map {
		m = append(m, at(x.Key, whole(x.Val)))
	}
	v.List, v.Map = l, m
	return v
}

// same tells whether two values are the same in kind and content.
func same(a, b api.Value) bool {
	if a.Kind != b.Kind || a.Bool != b.Bool || a.Int != b.Int || a.Str != b.Str || len(a.List) != len(b.List) || len(a.Map) != len(b.Map) {
		return false
	}
	for i := range a.List {
		if !same(a.List[i], b.List[i]) {
			return false
		}
	}
	for i := range a.Map {
		if a.Map[i].Key != b.Map[i].Key || !same(a.Map[i].Val, b.Map[i].Val) {
			return false
		}
	}
	return true
}

// scribble writes over all that a value holds, spare room too.
func scribble(v api.Value) {
	l, m := v.List[:cap(v.List)], v.Map[:cap(v.Map)]
	for i := range l {
		scribble(l[i])
		l[i] = text("scribble")
	}
	for i := range m {
		scribble(m[i].Val)
		m[i] = at("scribble", text("scribble"))
	}
}
