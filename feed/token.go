package feed

import (
	"freehold/api"
	"freehold/json"
	"freehold/value"
)

// The members of a token's map.
const (
	keyAfter    = "after"
	keyKind     = "kind"
	keyRev      = "rev"
	keySelector = "selector"
)

// Token is a page's token.
func Token(rev int, kind, sel, after string) (string, api.Errno) {
	c, e := choose(kind, sel)
	if e != api.OK {
		return "", e
	}
	if rev < 0 || rev > api.MaxRevision {
		return "", api.ErrToken
	}
	v := api.Value{Kind: api.Map, Map: []api.Member{
		{Key: keyAfter, Val: str(after)},
		{Key: keyKind, Val: str(kind)},
		{Key: keyRev, Val: api.Value{Kind: api.Int, Int: rev}},
		{Key: keySelector, Val: str(c.text())},
	}}
	b, e := json.Print(v, api.MaxDepth)
	if e != api.OK {
		return "", api.ErrToken
	}
	return string(b), api.OK
}

func str(s string) api.Value { return api.Value{Kind: api.Str, Str: s} }

// ReadToken reads it: the revision, the kind, the selector, the last key. Whatever a text seems to have under these keys, it is a token just if it is the one text of them.
func ReadToken(s string) (int, string, string, string, api.Errno) {
	v, _, _ := json.Parse([]byte(s), api.MaxDepth)
	rev, kind, sel, after := under(v, keyRev).Int, under(v, keyKind).Str, under(v, keySelector).Str, under(v, keyAfter).Str
	text, e := Token(rev, kind, sel, after)
	if e != api.OK || text != s {
		return 0, "", "", "", api.ErrToken
	}
	return rev, kind, sel, after, api.OK
}

// under is what a map has under a key; null, if it has nothing there, or is no map.
func under(v api.Value, key string) api.Value {
	x, _ := value.Get(v, key)
	return x
}
