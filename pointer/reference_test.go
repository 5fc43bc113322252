package pointer

import (
	"fmt"
	"math/big"
	"math/rand"
	"reflect"
	"regexp"
	"slices"
	"sort"
	"strings"
	"testing"
	"unicode/utf8"

	"freehold/api"
	"freehold/json"
	"freehold/value"
)

// What the tests hold the package against, written from the words of the document in other ways than the package's own: places are pointers into a copy, which is changed where it lies.

func num(n int) api.Value                 { return api.Value{Kind: api.Int, Int: n} }
func text(s string) api.Value             { return api.Value{Kind: api.Str, Str: s} }
func list(l ...api.Value) api.Value       { return api.Value{Kind: api.List, List: l} }
func object(l ...api.Member) api.Value    { return api.Value{Kind: api.Map, Map: l} }
func at(k string, v api.Value) api.Member { return api.Member{Key: k, Val: v} }
func nulls(n int) api.Value               { return list(make([]api.Value, n)...) }

var (
	null = api.Value{}
	bad  = api.Value{Kind: 9}
)

// lists is a value in so many lists, one in the other.
func lists(n int, v api.Value) api.Value {
	for range n {
		v = list(v)
	}
	return v
}

// read is the value of a text.
func read(s string) api.Value {
	v, _, e := json.Parse([]byte(s), api.DeepRecord)
	if e != api.OK {
		panic(s)
	}
	return v
}

// show is a value as a test tells it.
func show(v api.Value) string {
	b, e := json.Print(v, api.DeepRecord)
	if e != api.OK || len(b) > 300 {
		return fmt.Sprintf("a value of the kind %d (%d)", v.Kind, e)
	}
	return string(b)
}

var (
	isPointer = regexp.MustCompile(`^(?s:(/([^/~]|~0|~1)*)*)$`)
	isNumber  = regexp.MustCompile(`^(0|[1-9][0-9]*)$`)
)

func wantParse(p string) ([]string, api.Errno) {
	if !utf8.ValidString(p) || !isPointer.MatchString(p) {
		return nil, api.ErrPointer
	}
	var l []string
	for _, s := range strings.Split(p, "/")[min(1, len(p)):] {
		if p != "" {
			l = append(l, strings.NewReplacer("~0", "~", "~1", "/").Replace(s))
		}
	}
	return l, api.OK
}

func wantPrint(l []string) (string, api.Errno) {
	p := ""
	for _, s := range l {
		if !utf8.ValidString(s) {
			return "", api.ErrPointer
		}
		p += "/" + strings.NewReplacer("~", "~0", "/", "~1").Replace(s)
	}
	return p, api.OK
}

// pointerOf is wantPrint of tokens that are text strings.
func pointerOf(l ...string) string {
	p, _ := wantPrint(l)
	return p
}

// numbered is the number that a token says, if it is from 0 to most.
func numbered(token string, most int) int {
	n, _ := new(big.Int).SetString(token, 10)
	if !isNumber.MatchString(token) || n.Cmp(big.NewInt(int64(most))) > 0 {
		return -1
	}
	return int(n.Int64())
}

// below is where a token leads to.
func below(v *api.Value, token string) (*api.Value, api.Errno) {
	if v.Kind == api.List {
		i := numbered(token, len(v.List)-1)
		if i < 0 {
			return nil, api.ErrIndex
		}
		return &v.List[i], api.OK
	}
	for i := range v.Map {
		if v.Map[i].Key == token {
			return &v.Map[i].Val, api.OK
		}
	}
	return nil, api.ErrPlace
}

// begin is a copy, and in it what all but some last tokens lead to.
func begin(v api.Value, p string, but int, xs ...api.Value) (*api.Value, *api.Value, []string, api.Errno) {
	if e := value.Check(v, 40); e != api.OK {
		return nil, nil, nil, e
	}
	l, e := wantParse(p)
	if e != api.OK {
		return nil, nil, nil, e
	}
	for _, x := range xs {
		if e := value.Check(x, 40); e != api.OK {
			return nil, nil, nil, e
		}
	}
	whole := roomy(v)
	w := &whole
	for _, token := range l[:max(0, len(l)-but)] {
		if w, e = below(w, token); e != api.OK {
			return nil, nil, nil, e
		}
	}
	return &whole, w, l, api.OK
}

// ended is what came out, if it may be.
func ended(v api.Value) (api.Value, api.Errno) {
	if e := value.Check(v, 40); e != api.OK {
		return null, e
	}
	return v, api.OK
}

func wantGet(v api.Value, p string) (api.Value, api.Errno) {
	_, w, _, e := begin(v, p, 0)
	if e != api.OK {
		return null, e
	}
	return *w, api.OK
}

func wantSet(v api.Value, p string, x api.Value) (api.Value, api.Errno) {
	whole, w, _, e := begin(v, p, 0, x)
	if e != api.OK {
		return null, e
	}
	*w = x
	return ended(*whole)
}

func wantAdd(v api.Value, p string, x api.Value) (api.Value, api.Errno) {
	whole, w, l, e := begin(v, p, 1, x)
	if e != api.OK {
		return null, e
	}
	if len(l) == 0 {
		return ended(x)
	}
	last := l[len(l)-1]
	switch w.Kind {
	case api.Map:
		w.Map = slices.DeleteFunc(w.Map, func(m api.Member) bool { return m.Key == last })
		w.Map = append(w.Map, at(last, x))
		sort.Slice(w.Map, func(i, k int) bool { return w.Map[i].Key < w.Map[k].Key })
	case api.List:
		i := numbered(last, len(w.List))
		if last == "-" {
			i = len(w.List)
		}
		if i < 0 {
			return null, api.ErrIndex
		}
		w.List = slices.Insert(w.List, i, x)
	default:
		return null, api.ErrPlace
	}
	return ended(*whole)
}

func wantTake(v api.Value, p string) (api.Value, api.Value, api.Errno) {
	whole, w, l, e := begin(v, p, 1)
	if e != api.OK {
		return null, null, e
	}
	if len(l) == 0 {
		return null, null, api.ErrPlace
	}
	last := l[len(l)-1]
	gone, e := below(w, last)
	if e != api.OK {
		return null, null, e
	}
	was := roomy(*gone)
	if w.Kind == api.List {
		i := numbered(last, len(w.List))
		w.List = slices.Delete(w.List, i, i+1)
	} else {
		w.Map = slices.DeleteFunc(w.Map, func(m api.Member) bool { return m.Key == last })
	}
	return *whole, was, api.OK
}

func wantKids(v api.Value, p string) ([]string, api.Errno) {
	_, w, _, e := begin(v, p, 0)
	if e != api.OK {
		return nil, e
	}
	var l []string
	for i := range w.List {
		l = append(l, fmt.Sprint(i))
	}
	for _, m := range w.Map {
		l = append(l, m.Key)
	}
	return l, api.OK
}

// places is the tokens of every place of a value, the root first.
func places(v api.Value) [][]string {
	all := [][]string{nil}
	for i, x := range v.List {
		for _, l := range places(x) {
			all = append(all, append([]string{fmt.Sprint(i)}, l...))
		}
	}
	for _, m := range v.Map {
		for _, l := range places(m.Val) {
			all = append(all, append([]string{m.Key}, l...))
		}
	}
	return all
}

// begins tells whether one row of tokens begins with another one.
func begins(l, with []string) bool {
	return len(l) >= len(with) && slices.Equal(l[:len(with)], with)
}

// pick makes values of few parts.
func pick(r *rand.Rand, depth int) api.Value {
	n := 10
	if depth == 0 {
		n = 4
	}
	switch k := r.Intn(n); {
	case k == 0:
		return null
	case k == 1:
		return api.Value{Kind: api.Bool, Bool: r.Intn(2) == 0}
	case k == 2:
		return num(r.Intn(9))
	case k == 3:
		return text(pickToken(r))
	case k < 7:
		v := list()
		for range r.Intn(5) {
			v.List = append(v.List, pick(r, depth-1))
		}
		return v
	}
	keys := map[string]api.Value{}
	for range r.Intn(6) {
		keys[pickToken(r)] = pick(r, depth-1)
	}
	v := object()
	for k, x := range keys {
		v.Map = append(v.Map, at(k, x))
	}
	sort.Slice(v.Map, func(i, k int) bool { return v.Map[i].Key < v.Map[k].Key })
	return v
}

func pickToken(r *rand.Rand) string {
	return []string{"", "a", "a/b", "~", "/", "~1", "~0", "0", "1", "2", "-", "01", "-0", "b", "\u00e9", "\x00", "~01/", "\U0001f600"}[r.Intn(18)]
}

// pickPlace makes a pointer to a place of a value, or to one beside or below it, or a text that is near one.
func pickPlace(r *rand.Rand, v api.Value) string {
	all := places(v)
	l := slices.Clone(all[r.Intn(len(all))])
	switch r.Intn(8) {
	case 0:
		l = append(l, pickToken(r))
	case 1:
		if len(l) > 0 {
			l[len(l)-1] = pickToken(r)
		}
	case 2:
		if len(l) > 0 {
			l[r.Intn(len(l))] = pickToken(r)
		}
	case 3:
		l = append(l, fmt.Sprint(r.Intn(6)))
	case 4:
		l = append(l, "-")
	case 5:
		if r.Intn(3) == 0 {
			p := pointerOf(l...)
			i := r.Intn(len(p) + 1)
			return p[:i] + []string{"~", "/", "~2", "\xff", "a", "~0", "\xc3"}[r.Intn(7)] + p[i:]
		}
	}
	return pointerOf(l...)
}

// room is the memory of a list, its spare room too.
type room struct{ from, to uintptr }

func rooms(v api.Value) []room {
	l := append(roomOf(v.List), roomOf(v.Map)...)
	for _, x := range v.List {
		l = append(l, rooms(x)...)
	}
	for _, x := range v.Map {
		l = append(l, rooms(x.Val)...)
	}
	return l
}

func roomOf(l any) []room {
	v := reflect.ValueOf(l)
	if v.Cap() == 0 {
		return nil
	}
	return []room{{v.Pointer(), v.Pointer() + uintptr(v.Cap())*v.Type().Elem().Size()}}
}

// checkApart holds rooms against each other: no two may have memory in common.
func checkApart(t *testing.T, what string, l []room) {
	t.Helper()
	sort.Slice(l, func(i, k int) bool { return l[i].from < l[k].from })
	for i := 1; i < len(l); i++ {
		if l[i].from < l[i-1].to {
			t.Errorf("P4.8: %s: two lists share memory", what)
			return
		}
	}
}

// roomy is a value in memory of its own whose lists have spare room, with something in it.
func roomy(v api.Value) api.Value {
	var l []api.Value
	for _, x := range v.List {
		l = append(l, roomy(x))
	}
	var m []api.Member
	for _, x := range v.Map {
		m = append(m, at(x.Key, roomy(x.Val)))
	}
	v.List = append(l, num(77), num(78))[:len(l)]
	v.Map = append(m, at("spare", num(79)))[:len(m)]
	return v
}

// whole is a value with the spare room of its lists told as if it were part of them.
func whole(v api.Value) api.Value {
	v.List, v.Map = v.List[:cap(v.List)], v.Map[:cap(v.Map)]
	var l []api.Value
	for _, x := range v.List {
		l = append(l, whole(x))
	}
	var m []api.Member
	for _, x := range v.Map {
		m = append(m, at(x.Key, whole(x.Val)))
	}
	v.List, v.Map = l, m
	return v
}

// same tells whether two values are the same in kind and content.
func same(a, b api.Value) bool {
	if a.Kind != b.Kind || a.Bool != b.Bool || a.Int != b.Int || a.Str != b.Str || len(a.List) != len(b.List) || len(a.Map) != len(b.Map) {
		return false
	}
	for i := range a.List {
		if !same(a.List[i], b.List[i]) {
			return false
		}
	}
	for i := range a.Map {
		if a.Map[i].Key != b.Map[i].Key || !same(a.Map[i].Val, b.Map[i].Val) {
			return false
		}
	}
	return true
}
