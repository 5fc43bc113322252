package selector

import (
	stdjson "encoding/json"
	"fmt"
	"math/rand"
	"reflect"
	"regexp"
	"slices"
	"sort"
	"strings"
	"testing"
	"unicode/utf8"

	"freehold/api"
)

// What the tests hold the package against, written from the words of the chapter in other ways than the package's own: a text is cut into words and signs, each of them is one letter, a regular expression tells which rows of these letters are selectors, and a fault stands at the first letter up to which no row can be gone on with. What is chosen, and whether anything is, is tried out.

const (
	mostName = 64
	mostText = 1048576
)

func hasKey(key string) api.Term                { return api.Term{Key: key, Op: api.Has} }
func hasNot(key string) api.Term                { return api.Term{Key: key, Op: api.HasNot} }
func in(key string, vals ...string) api.Term    { return api.Term{Key: key, Op: api.In, Vals: vals} }
func notIn(key string, vals ...string) api.Term { return api.Term{Key: key, Op: api.NotIn, Vals: vals} }
func text(s string) api.Value                   { return api.Value{Kind: api.Str, Str: s} }
func num(n int) api.Value                       { return api.Value{Kind: api.Int, Int: n} }
func at(key string, v api.Value) api.Member     { return api.Member{Key: key, Val: v} }
func label(key, val string) api.Member          { return at(key, text(val)) }
func dict(l ...api.Member) api.Value            { return api.Value{Kind: api.Map, Map: l} }
func labelled(l ...api.Member) api.Value        { return dict(at("labels", dict(l...))) }
func pickOf[T any](r *rand.Rand, l ...T) T      { return l[r.Intn(len(l))] }
func all[T any](l []T, is func(T) bool) bool    { return len(those(l, is)) == len(l) }
func rising(l []string) []string                { return slices.Compact(slices.Sorted(slices.Values(l))) }
func show(l []api.Term) string                  { return cut(fmt.Sprintf("%+v", l)) }

// those is which of a list are so.
func those[T any](l []T, is func(T) bool) []T {
	var out []T
	for _, x := range l {
		if is(x) {
			out = append(out, x)
		}
	}
	return out
}

// cut is a text as a test tells it.
func cut(s string) string {
	if len(s) > 2000 {
		return fmt.Sprintf("%s .. (%d bytes)", s[:200], len(s))
	}
	return s
}

// same tells whether two things of package api are the same, where nil and empty lists are.
func same(a, b any) bool { return sameOf(reflect.ValueOf(a), reflect.ValueOf(b)) }

func sameOf(a, b reflect.Value) bool {
	switch a.Kind() {
	case reflect.Slice:
		if a.Len() != b.Len() {
			return false
		}
		for i := range a.Len() {
			if !sameOf(a.Index(i), b.Index(i)) {
				return false
			}
		}
		return true
	case reflect.Struct:
		for i := range a.NumField() {
			if !sameOf(a.Field(i), b.Field(i)) {
				return false
			}
		}
		return true
	}
	return a.Equal(b)
}

// A word or sign of a text: its letter, where it stands, the word that it is.
type piece struct {
	letter byte // w, i and n: a plain word, in, notin; q and e: a quoted one, the empty one; a sign: itself; ~ and #: == and !=; x: nothing of these
	place  int
	word   string
}

var (
	plainWord  = regexp.MustCompile(`^[A-Za-z0-9\-_./]+`)
	quotedWord = regexp.MustCompile(`^"(?:[^"\\\x00-\x1f]|\\["\\/bfnrt]|\\u(?:[0-9abcefABCEF][0-9a-fA-F]{3}|[dD][0-7][0-9a-fA-F]{2}|[dD][89abAB][0-9a-fA-F]{2}\\u[dD][c-fC-F][0-9a-fA-F]{2}))*"`)
	oneTerm    = regexp.MustCompile(`!([winq])|([winq])(?:([=~#])([winqe])|([in])\(([winqe](?:,[winqe])*)\))?`)
	manyTerms  = regexp.MustCompile(`^(?:T(?:,T)*)?$`)
)

// isRow tells whether letters are those of a selector.
func isRow(letters string) bool {
	return manyTerms.MatchString(oneTerm.ReplaceAllString(letters, "T"))
}

// goesOn tells whether letters are the beginning of those of a selector: what can be missing is a word, and brackets.
func goesOn(letters string) bool {
	for _, more := range []string{"", "w", "w)", ")", "(w)"} {
		if isRow(letters + more) {
			return true
		}
	}
	return false
}

// nextPiece is what stands at the front of a text, and how many bytes it has.
func nextPiece(s string) (piece, int) {
	if m := plainWord.FindString(s); m != "" {
		p := piece{letter: 'w', word: m}
		switch {
		case m == "in":
			p.letter = 'i'
		case m == "notin":
			p.letter = 'n'
		case len(m) > mostName:
			p.letter = 'x'
		}
		return p, len(m)
	}
	if m := quotedWord.FindString(s); m != "" && utf8.ValidString(m) {
		p := piece{letter: 'q'}
		if err := stdjson.Unmarshal([]byte(m), &p.word); err != nil || len(p.word) > mostName {
			p.letter = 'x'
		} else if p.word == "" {
			p.letter = 'e'
		}
		return p, len(m)
	}
	switch {
	case strings.HasPrefix(s, "=="):
		return piece{letter: '~'}, 2
	case strings.HasPrefix(s, "!="):
		return piece{letter: '#'}, 2
	case strings.ContainsRune("=!,()", rune(s[0])):
		return piece{letter: s[0]}, 1
	}
	return piece{letter: 'x'}, 1
}

// pieces cuts a text; where something stands that is neither word nor sign, it ends.
func pieces(s string) []piece {
	var l []piece
	for i := 0; i < len(s); {
		if s[i] == ' ' {
			i++
			continue
		}
		p, n := nextPiece(s[i:])
		p.place = i
		l = append(l, p)
		if p.letter == 'x' {
			break
		}
		i += n
	}
	return l
}

// wantParse is what Parse should answer.
func wantParse(s string) ([]api.Term, int, api.Errno) {
	if len(s) > mostText {
		return nil, mostText, api.ErrSelector
	}
	l, letters := pieces(s), ""
	for _, p := range l {
		if !goesOn(letters + string(p.letter)) {
			if p.letter == '#' && goesOn(letters+"!") { // the ! may stand there, the = may not
				return nil, p.place + 1, api.ErrSelector
			}
			return nil, p.place, api.ErrSelector
		}
		letters += string(p.letter)
	}
	if !isRow(letters) {
		return nil, len(s), api.ErrSelector
	}
	var terms []api.Term
	for _, m := range oneTerm.FindAllStringSubmatchIndex(letters, -1) {
		terms = append(terms, termOf(l, letters, m))
	}
	return terms, -1, api.OK
}

// termOf is the term of pieces, by the places of a match.
func termOf(l []piece, letters string, m []int) api.Term {
	if m[2] >= 0 {
		return hasNot(l[m[2]].word)
	}
	key := l[m[4]].word
	switch {
	case m[6] >= 0 && letters[m[6]] == '#':
		return notIn(key, l[m[8]].word)
	case m[6] >= 0:
		return in(key, l[m[8]].word)
	case m[10] < 0:
		return hasKey(key)
	}
	var vals []string
	for i := m[12]; i < m[13]; i += 2 {
		vals = append(vals, l[i].word)
	}
	if letters[m[10]] == 'n' {
		return notIn(key, rising(vals)...)
	}
	return in(key, rising(vals)...)
}

func wordIs(s string) bool { return len(s) <= mostName && utf8.ValidString(s) }

func termIs(t api.Term) bool {
	least := map[int]int{api.Has: 0, api.HasNot: 0, api.In: 1, api.NotIn: 1}
	most := map[int]int{api.In: len(t.Vals), api.NotIn: len(t.Vals)}
	n, known := least[t.Op]
	words := append([]string{t.Key}, t.Vals...)
	return known && t.Key != "" && len(t.Vals) >= n && len(t.Vals) <= most[t.Op] && all(words, wordIs) && slices.Equal(t.Vals, rising(t.Vals))
}

func termsAre(l []api.Term) bool { return all(l, termIs) }

// wantWord is the text of a word.
func wantWord(s string) string {
	if s != "" && plainWord.FindString(s) == s {
		return s
	}
	letters := map[rune]string{'"': `\"`, '\\': `\\`, '\b': `\b`, '\t': `\t`, '\n': `\n`, '\f': `\f`, '\r': `\r`}
	out := ""
	for _, c := range s {
		switch {
		case letters[c] != "":
			out += letters[c]
		case c < 32:
			out += fmt.Sprintf(`\u%04x`, c)
		default:
			out += string(c)
		}
	}
	return `"` + out + `"`
}

// wantPrint is what Print should answer.
func wantPrint(l []api.Term) (string, api.Errno) {
	if !termsAre(l) {
		return "", api.ErrSelector
	}
	var terms []string
	for _, t := range l {
		var vals []string
		for _, s := range t.Vals {
			vals = append(vals, wantWord(s))
		}
		form := map[int]string{api.Has: "%s", api.HasNot: "!%s", api.In: "%s=%s", api.NotIn: "%s!=%s"}[t.Op]
		if len(vals) > 1 {
			form = map[int]string{api.In: "%s in (%s)", api.NotIn: "%s notin (%s)"}[t.Op]
		}
		parts := []any{wantWord(t.Key), strings.Join(vals, ",")}
		terms = append(terms, fmt.Sprintf(form, parts[:strings.Count(form, "%")]...))
	}
	return strings.Join(terms, ","), api.OK
}

// wantMatch is what Match should answer.
func wantMatch(l []api.Term, labels []api.Member) bool {
	return termsAre(l) && all(l, func(t api.Term) bool {
		i := slices.IndexFunc(labels, func(m api.Member) bool { return m.Key == t.Key && m.Val.Kind == api.Str })
		is := i >= 0 && slices.Contains(t.Vals, labels[i].Val.Str)
		return map[int]bool{api.Has: i >= 0, api.HasNot: i < 0, api.In: is, api.NotIn: !is}[t.Op]
	})
}

// fresh is a value that no term of a test names.
const fresh = "a value that is nowhere else"

// wantSimplify is what Simplify should answer: for each key what the chapter says, if one of the labels of that key, or none, is chosen.
func wantSimplify(l []api.Term) ([]api.Term, bool) {
	if !termsAre(l) {
		return nil, false
	}
	var keys []string
	for _, t := range l {
		keys = append(keys, t.Key)
	}
	var out []api.Term
	for _, key := range rising(keys) {
		mine := those(l, func(t api.Term) bool { return t.Key == key })
		if !somethingFor(mine) {
			return nil, false
		}
		out = append(out, simplestOf(key, mine)...)
	}
	return out, true
}

// somethingFor tells whether terms of one key choose anything: no label of it, or one with a value that they name, or with another one.
func somethingFor(mine []api.Term) bool {
	tries := [][]api.Member{nil, {label(mine[0].Key, fresh)}}
	for _, t := range mine {
		for _, s := range t.Vals {
			tries = append(tries, []api.Member{label(t.Key, s)})
		}
	}
	return slices.ContainsFunc(tries, func(m []api.Member) bool { return wantMatch(mine, m) })
}

func simplestOf(key string, mine []api.Term) []api.Term {
	of := func(op int) []api.Term { return those(mine, func(t api.Term) bool { return t.Op == op }) }
	named := func(l []api.Term) []string {
		var vals []string
		for _, t := range l {
			vals = append(vals, t.Vals...)
		}
		return rising(vals)
	}
	holding := func(s string) bool {
		return wantMatch(slices.Concat(of(api.In), of(api.NotIn)), []api.Member{label(key, s)})
	}
	switch {
	case len(of(api.HasNot)) > 0:
		return []api.Term{hasNot(key)}
	case len(of(api.In)) > 0:
		return []api.Term{in(key, those(named(mine), holding)...)}
	}
	var l []api.Term
	if len(of(api.Has)) > 0 {
		l = append(l, hasKey(key))
	}
	if len(of(api.NotIn)) > 0 {
		l = append(l, notIn(key, named(of(api.NotIn))...))
	}
	return l
}

// checkText holds Parse of a text against the second reading, and there and back.
func checkText(t *testing.T, s string) api.Errno {
	t.Helper()
	l, place, e := Parse(s)
	wl, wplace, we := wantParse(s)
	if !same(l, wl) || place != wplace || e != we {
		t.Fatalf("P20.1: Parse(%q) = %s, %d, %d, want %s, %d, %d", cut(s), show(l), place, e, show(wl), wplace, we)
	}
	if e != api.OK {
		return e
	}
	if !termsAre(l) {
		t.Fatalf("P20.1: Parse(%q) = %s, which is no selector", cut(s), show(l))
	}
	checkTerms(t, l)
	return e
}

// checkTerms holds all calls that a list of terms alone is handed to against the second reading, and the laws of P20.5; whether it is a selector.
func checkTerms(t *testing.T, l []api.Term) bool {
	t.Helper()
	s, e := Print(l)
	ws, we := wantPrint(l)
	if s != ws || e != we {
		t.Fatalf("P20.2: Print(%s) = %q, %d, want %q, %d", show(l), cut(s), e, cut(ws), we)
	}
	m, can := Simplify(l)
	wm, wcan := wantSimplify(l)
	if !same(m, wm) || can != wcan {
		t.Fatalf("P20.4: Simplify(%s) = %s, %t, want %s, %t", show(l), show(m), can, show(wm), wcan)
	}
	if e != api.OK {
		if Match(l, nil) {
			t.Fatalf("P20.3: Match(%s) of what is no selector", show(l))
		}
		return false
	}
	if back, place, e := Parse(s); len(s) <= mostText && (!same(back, l) || place != -1 || e != api.OK) {
		t.Fatalf("P20.5: Parse(%q) = %s, %d, %d, want %s", cut(s), show(back), place, e, show(l))
	}
	if again, yes := Simplify(m); can && (!same(again, m) || !yes || len(m) > len(l)) {
		t.Fatalf("P20.5: Simplify(%s) = %s, of which it is %s, %t", show(l), show(m), show(again), yes)
	}
	return true
}

// checkLabels holds Match against the second reading, and what a selector and its simplest form choose against each other; whether they are chosen.
func checkLabels(t *testing.T, l []api.Term, labels []api.Member) bool {
	t.Helper()
	yes := Match(l, labels)
	if yes != wantMatch(l, labels) {
		t.Fatalf("P20.3: Match(%s, %+v) = %t", show(l), labels, yes)
	}
	m, can := Simplify(l)
	if yes != (can && Match(m, labels)) {
		t.Fatalf("P20.5: Match(%s, %+v) = %t, but of its Simplify %s, %t", show(l), labels, yes, show(m), can)
	}
	each := termsAre(l) && all(l, func(x api.Term) bool { return Match([]api.Term{x}, labels) })
	if yes != each {
		t.Fatalf("P20.5: Match(%s, %+v) = %t, but of each term: %t", show(l), labels, yes, each)
	}
	return yes
}

// room is the memory of a list, its spare room too.
type room struct{ from, to uintptr }

// rooms is the memory of all lists of a thing of package api.
func rooms(x any) []room { return roomsOf(reflect.ValueOf(x)) }

func roomsOf(v reflect.Value) []room {
	var l []room
	switch v.Kind() {
	case reflect.Slice:
		if v.Cap() > 0 {
			l = append(l, room{v.Pointer(), v.Pointer() + uintptr(v.Cap())*v.Type().Elem().Size()})
		}
		for i := range v.Len() {
			l = append(l, roomsOf(v.Index(i))...)
		}
	case reflect.Struct:
		for i := range v.NumField() {
			l = append(l, roomsOf(v.Field(i))...)
		}
	}
	return l
}

// checkApart holds rooms against each other: no two may have memory in common.
func checkApart(t *testing.T, l []room) {
	t.Helper()
	sort.Slice(l, func(i, k int) bool { return l[i].from < l[k].from })
	for i := 1; i < len(l); i++ {
		if l[i].from < l[i-1].to {
			t.Fatal("memory: two lists share some")
		}
	}
}

// roomy is a thing of package api in memory of its own whose lists have spare room, with something in it; empty lists too.
func roomy[T any](x T) T { return roomyOf(reflect.ValueOf(x)).Interface().(T) }

func roomyOf(v reflect.Value) reflect.Value {
	to := reflect.New(v.Type()).Elem()
	switch v.Kind() {
	case reflect.Slice:
		to.Set(reflect.MakeSlice(v.Type(), v.Len()+2, v.Len()+2))
		for i := range v.Len() {
			to.Index(i).Set(roomyOf(v.Index(i)))
		}
		for i := v.Len(); i < to.Len(); i++ {
			mark(to.Index(i))
		}
		to.SetLen(v.Len())
	case reflect.Struct:
		for i := range v.NumField() {
			to.Field(i).Set(roomyOf(v.Field(i)))
		}
	default:
		to.Set(v)
	}
	return to
}

// mark writes something into all strings and numbers of a thing.
func mark(v reflect.Value) {
	switch v.Kind() {
	case reflect.String:
		v.SetString("scribble")
	case reflect.Int:
		v.SetInt(77)
	case reflect.Struct:
		for i := range v.NumField() {
			mark(v.Field(i))
		}
	}
}

// whole tells a thing with the spare room of its lists as if it were part of them.
func whole(x any) string { return fmt.Sprint(wholeOf(reflect.ValueOf(x))) }

func wholeOf(v reflect.Value) any {
	l := []any{}
	switch v.Kind() {
	case reflect.Slice:
		if v.Cap() > 0 {
			l = append(l, v.Pointer())
		}
		v = v.Slice(0, v.Cap())
		for i := range v.Len() {
			l = append(l, wholeOf(v.Index(i)))
		}
		return l
	case reflect.Struct:
		for i := range v.NumField() {
			l = append(l, wholeOf(v.Field(i)))
		}
		return l
	}
	return fmt.Sprintf("%#v", v.Interface())
}

// scribble writes over all that a thing's lists hold, spare room too.
func scribble(x any) { scribbleOf(reflect.ValueOf(x)) }

func scribbleOf(v reflect.Value) {
	switch v.Kind() {
	case reflect.Slice:
		v = v.Slice(0, v.Cap())
		for i := range v.Len() {
			scribbleOf(v.Index(i))
			mark(v.Index(i))
		}
	case reflect.Struct:
		for i := range v.NumField() {
			scribbleOf(v.Field(i))
		}
	}
}
