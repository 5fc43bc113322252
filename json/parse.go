package json

import (
	"slices"
	"strconv"
	"strings"

	"freehold/api"
	"freehold/quote"
)

// Parse reads a text: the value, or the place of the fault.
func Parse(b []byte, depth int) (api.Value, int, api.Errno) {
	switch {
	case depth < 0 || depth > api.DeepRecord:
		return api.Value{}, 0, api.ErrArg
	case len(b) > api.MaxText:
		return api.Value{}, 0, api.ErrTextLong
	}
	return read(string(b), depth)
}

// fault is what the reader gives up with.
type fault struct {
	at    int
	errno api.Errno
}

// read is where a reader that gave up is caught, from whatever depth.
func read(text string, depth int) (v api.Value, at int, e api.Errno) {
	defer func() {
		if p := recover(); p != nil {
			f := p.(fault) // nothing else is ever thrown
			at, e = f.at, f.errno
		}
	}()
	r := reader{text: text, depth: depth}
	return r.whole(), -1, api.OK
}

// reader goes through a text. Its methods give up by panic, so that none of them has to hand a fault on.
type reader struct {
	text  string
	at    int
	depth int // how deep a value may be
	nodes int // values that have begun
}

func (r *reader) giveUp(at int, e api.Errno) { panic(fault{at, e}) }

func (r *reader) whole() api.Value {
	r.blanks()
	v := r.value(0)
	r.blanks()
	if r.at < len(r.text) {
		r.giveUp(r.at, api.ErrTextMore)
	}
	return v
}

func (r *reader) blanks() {
	for r.at < len(r.text) && strings.IndexByte(" \t\n\r", r.text[r.at]) >= 0 {
		r.at++
	}
}

// next is the byte that must stand here.
func (r *reader) next() byte {
	if r.at == len(r.text) {
		r.giveUp(r.at, api.ErrTextEnd)
	}
	return r.text[r.at]
}

// take goes past a byte, if it stands here.
func (r *reader) take(c byte) bool {
	if r.at == len(r.text) || r.text[r.at] != c {
		return false
	}
	r.at++
	return true
}

// must goes past a byte that has to stand here.
func (r *reader) must(c byte) {
	if r.next() != c {
		r.giveUp(r.at, api.ErrTextByte)
	}
	r.at++
}

func (r *reader) word(s string) {
	for i := range len(s) {
		r.must(s[i])
	}
}

// value reads a value with so many brackets open around it.
func (r *reader) value(open int) api.Value {
	c := r.next()
	r.enter(c, open)
	switch c {
	case 'n':
		r.word("null")
		return api.Value{}
	case 't':
		r.word("true")
		return api.Value{Kind: api.Bool, Bool: true}
	case 'f':
		r.word("false")
		return api.Value{Kind: api.Bool}
	case '"':
		return api.Value{Kind: api.Str, Str: r.quoted()}
	case '[':
		return api.Value{Kind: api.List, List: r.list(open + 1)}
	case '{':
		return api.Value{Kind: api.Map, Map: r.members(open + 1)}
	}
	return api.Value{Kind: api.Int, Int: r.number()}
}

// enter asks whether a value may begin here by this byte, ahead of what the value is; the order of its questions is that of the errors.
func (r *reader) enter(c byte, open int) {
	switch {
	case strings.IndexByte(`ntf"[{`, c) < 0 && !inNumber(c):
		r.giveUp(r.at, api.ErrTextByte)
	case r.nodes == api.MaxNodes:
		r.giveUp(r.at, api.ErrNodes)
	case open > r.depth:
		r.giveUp(r.at, api.ErrDeep)
	}
	r.nodes++
}

func (r *reader) quoted() string {
	s, at, e := quote.Unquote(r.text, r.at)
	if e != api.OK {
		r.giveUp(at, e)
	}
	r.at = at
	return s
}

func (r *reader) list(open int) []api.Value {
	var l []api.Value
	for more := r.begun(']'); more; more = r.goesOn(']') {
		l = append(l, r.value(open))
	}
	return l
}

func (r *reader) members(open int) []api.Member {
	var l []api.Member
	known := map[string]struct{}{}
	for more := r.begun('}'); more; more = r.goesOn('}') {
		key := r.key(known)
		l = append(l, api.Member{Key: key, Val: r.value(open)})
	}
	slices.SortFunc(l, func(a, b api.Member) int { return strings.Compare(a.Key, b.Key) })
	return l
}

// begun goes past an opening bracket, and tells whether something stands ahead of the closing one.
func (r *reader) begun(closing byte) bool {
	r.at++
	r.blanks()
	return !r.take(closing)
}

// goesOn tells, behind something within brackets, whether more of it follows.
func (r *reader) goesOn(closing byte) bool {
	r.blanks()
	if r.take(',') {
		r.blanks()
		return true
	}
	r.must(closing)
	return false
}

// key reads a key and what stands between it and its value.
func (r *reader) key(known map[string]struct{}) string {
	at := r.at
	if r.next() != '"' {
		r.giveUp(at, api.ErrTextByte) // that no key begins here is a fault of the text, not of a string
	}
	key := r.quoted()
	if _, twice := known[key]; twice {
		r.giveUp(at, api.ErrTextKey)
	}
	known[key] = struct{}{}
	r.blanks()
	r.must(':')
	r.blanks()
	return key
}

func (r *reader) number() int {
	end := r.at
	for end < len(r.text) && inNumber(r.text[end]) {
		end++
	}
	n, ok := integer(r.text[r.at:end])
	if !ok {
		r.giveUp(r.at, api.ErrTextNum)
	}
	r.at = end
	return n
}

func inNumber(c byte) bool {
	return c >= '0' && c <= '9' || strings.IndexByte("-+.eE", c) >= 0
}

// integer reads a run of a number's bytes. The library takes a plus and zeros ahead, too.
func integer(run string) (int, bool) {
	digits := strings.TrimPrefix(run, "-")
	if strings.HasPrefix(run, "+") || strings.HasPrefix(digits, "0") && len(digits) > 1 {
		return 0, false
	}
	n, err := strconv.ParseInt(run, 10, 64)
	return int(n), err == nil
}
