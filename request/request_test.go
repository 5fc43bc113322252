package request

import (
	"fmt"
	"strings"
	"testing"

	"freehold/api"
)

// write is the text of a request's members that writes of an object have, with one of them put in place of another one, or taken out, or more.
func write(op, from, to string) string {
	const members = `"body":{},"kind":"app","manager":"m","name":"x"`
	return `{` + strings.Replace(members, from, to, 1) + `,"op":"` + op + `"}`
}

func TestParse(t *testing.T) {
	whole := api.Request{Kind: "app", Name: "x", Manager: "m", Body: object()}
	with := func(op int, f func(r *api.Request)) api.Request {
		r := whole
		r.Op = op
		f(&r)
		return r
	}
	none := func(*api.Request) {}
	for _, c := range []struct {
		text string
		want api.Request
	}{
		{`{"op":"get","kind":"app","name":"x"}`, api.Request{Op: 1, Kind: "app", Name: "x"}},
		{" { \"name\" :\t\"x\",\r\n\"\\u006fp\":\"g\\u0065t\",\"kind\":\"app\" } ", api.Request{Op: 1, Kind: "app", Name: "x"}},
		{`{"op":"list","kind":"app"}`, api.Request{Op: 2, Kind: "app"}},
		{`{"op":"list","kind":"app","selector":"","continue":""}`, api.Request{Op: 2, Kind: "app"}},
		{`{"op":"list","kind":"app","selector":"a=b","continue":"tok","limit":1}`, api.Request{Op: 2, Kind: "app", Selector: "a=b", Continue: "tok", Limit: 1}},
		{`{"op":"list","kind":"app","selector":"no = selector ("}`, api.Request{Op: 2, Kind: "app", Selector: "no = selector ("}}, // the server knows
		{`{"op":"events","after":0}`, api.Request{Op: 3}},
		{`{"op":"events","after":-0}`, api.Request{Op: 3}},
		{`{"op":"events","after":9007199254740991,"kind":"app","limit":500}`, api.Request{Op: 3, After: 9007199254740991, Kind: "app", Limit: 500}},
		{write("create", "", ""), with(4, none)},
		{write("apply", "", `"force":false,`), with(5, none)},
		{write("apply", "", `"force":true,"revision":1,`), with(5, func(r *api.Request) { r.Force, r.Rev = true, 1 })},
		{write("update", "", `"revision":9007199254740991,`), with(6, func(r *api.Request) { r.Rev = 9007199254740991 })},
		{write("merge", "{}", "null"), with(7, func(r *api.Request) { r.Body = api.Value{} })},
		{write("steps", "{}", `[{"op":"fly"}]`), with(8, func(r *api.Request) { r.Body = list(object(at("op", str("fly")))) })},
		{write("strategic", "{}", "5"), with(9, func(r *api.Request) { r.Body = num(5) })},
		{write("strategic", "", `"revision":2,`), with(9, func(r *api.Request) { r.Rev = 2 })},
		{`{"op":"delete","kind":"app","name":"x"}`, api.Request{Op: 10, Kind: "app", Name: "x"}},
		{`{"op":"delete","kind":"app","name":"x","revision":3}`, api.Request{Op: 10, Kind: "app", Name: "x", Rev: 3}},
	} {
		r, class, e := checkParse(t, []byte(c.text))
		if class != api.ClassOK || e != api.OK || !same(r, c.want) {
			t.Errorf("P22.1: %s: %s, class %d, %d", c.text, cut(r), class, e)
		}
	}
}

// What may stand in each member, and what may not.
func TestMembers(t *testing.T) {
	long := strings.Repeat("n", 64)
	for _, c := range []struct {
		text string // with %s, where the member is
		key  string
		may  []string
		not  []string
	}{
		{`{"op":"get","name":"x"%s}`, "kind", []string{`"a"`, `"Z"`, `"a-_9Zz"`, `"` + long + `"`}, []string{`""`, `"1a"`, `"_a"`, `"-a"`, `"a.b"`, `"a/b"`, `"a b"`, `"\u00e9"`, `"a\u00e9"`, `"a\u0000"`, `"a\n"`, `"` + long + `n"`, "5", "null", "true", "[]", `["a"]`, `{"a":1}`}},
		{`{"op":"get","kind":"app"%s}`, "name", []string{`"a"`, `"0"`, `"Z"`, `"9.b-_"`, `"a.."`, `"` + long + `"`}, []string{`""`, `"."`, `".a"`, `"-a"`, `"_a"`, `"/x"`, `"a/b"`, `"a b"`, `"a~"`, `"\u00e9"`, `"a\u00e9"`, `"a\n"`, `"` + long + `n"`, "5", "null", "false", `["a"]`}},
		{write("create", `,"manager":"m"`, "%s"), "manager", []string{`"m"`, `" "`, `"\u0000"`, `"/"`, `"` + long + `"`, `"` + strings.Repeat("\u00e9", 32) + `"`}, []string{`""`, `"` + long + `m"`, `"m` + strings.Repeat("\u00e9", 32) + `"`, "5", "null", `["m"]`}},
		{write("create", `"body":{},"kind":"app"`, `"kind":"app"%s`), "body", []string{"null", "0", `""`, "[]", "{}", "false", `{"a":[null]}`}, nil},
		{`{"op":"list","kind":"app"%s}`, "selector", []string{`""`, `"a"`, `"` + strings.Repeat("s", 4096) + `"`, `"` + strings.Repeat("\u00e9", 2048) + `"`}, []string{`"` + strings.Repeat("s", 4097) + `"`, `"s` + strings.Repeat("\u00e9", 2048) + `"`, "5", "null", "[]"}},
		{`{"op":"list","kind":"app"%s}`, "continue", []string{`""`, `"a"`, `"` + strings.Repeat("c", 100000) + `"`}, []string{"5", "null", "[]", "{}"}},
		{`{"op":"list","kind":"app"%s}`, "limit", []string{"1", "500"}, []string{"0", "-1", "501", `"1"`, `""`, "null", "true", "[1]", "9223372036854775807", "-9223372036854775808"}},
		{`{"op":"events","after":1%s}`, "limit", []string{"1", "500"}, []string{"0", "501", "null"}},
		{`{"op":"events"%s}`, "after", []string{"0", "-0", "9007199254740991"}, []string{"-1", "9007199254740992", `"0"`, "null", "false", "[]"}},
		{write("apply", `,"manager"`, `%s,"manager"`), "revision", []string{"1", "9007199254740991"}, []string{"0", "-1", "9007199254740992", `"1"`, "null", "true"}},
		{`{"op":"delete","kind":"app","name":"x"%s}`, "revision", []string{"1", "9007199254740991"}, []string{"0", "9007199254740992", "null"}},
		{write("apply", `,"manager"`, `%s,"manager"`), "force", []string{"true", "false"}, []string{"0", "1", "null", `"true"`, `""`, "[]"}},
		{`{"kind":"app","name":"x"%s}`, "op", []string{`"get"`, `"delete"`}, []string{`""`, `"Get"`, `"get "`, `"fly"`, `"list"`, `"create"`, "1", "null", `["get"]`, `{"op":"get"}`}},
	} {
		ask := func(member string) (int, api.Errno) {
			_, class, e := checkParse(t, []byte(strings.Replace(c.text, "%s", member, 1)))
			return class, e
		}
		for _, v := range c.may {
			if class, e := ask(`,"` + c.key + `":` + v); class != api.ClassOK || e != api.OK {
				t.Errorf("P22.1: %s with %s %s: class %d, %d", cut(c.text), c.key, cut(v), class, e)
			}
		}
		for _, v := range c.not {
			if class, e := ask(`,"` + c.key + `":` + v); class != api.ClassBadRequest || e != api.ErrRequest {
				t.Errorf("P22.1: %s with %s %s: class %d, %d", cut(c.text), c.key, cut(v), class, e)
			}
		}
		if class, e := ask(`,"` + c.key + `":` + c.may[0] + `,"other":1`); class != api.ClassBadRequest || e != api.ErrRequest {
			t.Errorf("P22.1: %s with a member more: class %d, %d", cut(c.text), class, e)
		}
	}
}

func TestNoRequest(t *testing.T) {
	for _, text := range []string{"{}", "[]", "null", "5", `"get"`, `["op","get"]`, `{"op":"fly"}`, `{"op":"get"}`, `{"":"get"}`, `{"Op":"get","kind":"app","name":"x"}`, `{"op":"get","kind":"app","name":"x","manager":"m"}`, `{"op":"get","kind":"app","name":"x","revision":1}`, `{"op":"get","kind":"app","name":"x","selector":""}`, `{"op":"list"}`, `{"op":"list","kind":"app","after":1}`, `{"op":"events"}`, `{"op":"events","after":1,"selector":""}`, `{"op":"events","after":1,"continue":""}`, `{"op":"delete","kind":"app"}`, `{"op":"delete","kind":"app","name":"x","force":false}`, `{"op":"delete","kind":"app","name":"x","manager":"m"}`, `{"op":"delete","kind":"app","name":"x","body":null}`, write("create", "", `"revision":1,`), write("create", "", `"force":false,`), write("update", "", `"force":false,`), write("strategic", "", `"force":true,`), write("apply", "", `"limit":1,`), write("apply", `"manager":"m",`, ""), write("apply", `,"name":"x"`, "")} {
		if r, class, e := checkParse(t, []byte(text)); class != api.ClassBadRequest || e != api.ErrRequest || !same(r, api.Request{}) {
			t.Errorf("P22.1: %s: %s, class %d, %d", text, cut(r), class, e)
		}
	}
}

func TestParseText(t *testing.T) {
	body := func(s string) string { return write("merge", "{}", s) }
	nulls := func(n int) string { return "[" + strings.Repeat("null,", n-1) + "null]" }
	fill := func(n int) string {
		s := body(`""`)
		return strings.Replace(s, `""`, `"`+strings.Repeat("b", n-len(s))+`"`, 1)
	}
	for _, c := range []struct {
		text  string
		class int
		e     api.Errno
	}{
		{"", api.ClassMalformed, api.ErrTextEnd},
		{`{"op": `, api.ClassMalformed, api.ErrTextEnd},
		{`{"op":"get","op":"get"}`, api.ClassMalformed, api.ErrTextKey},
		{`{"op":"get",}`, api.ClassMalformed, api.ErrTextByte},
		{`{"op":"fly"} x`, api.ClassMalformed, api.ErrTextMore},
		{`{"op":01}`, api.ClassMalformed, api.ErrTextNum},
		{"{\"op\":\"\xff\"}", api.ClassMalformed, api.ErrUTF},
		{`{"op":"\x"}`, api.ClassMalformed, api.ErrEscape},
		{"{\"op\":\"\n\"}", api.ClassMalformed, api.ErrQuote},
		{strings.Repeat(" ", 1048576), api.ClassMalformed, api.ErrTextEnd},
		{strings.Repeat(" ", 1048577), api.ClassOverlimit, api.ErrTextLong},
		{strings.Repeat("\xff", 1048577), api.ClassOverlimit, api.ErrTextLong},
		{fill(1048576), api.ClassOK, api.OK},
		{fill(1048577), api.ClassOverlimit, api.ErrTextLong},
		{body(strings.Repeat("[", 31) + strings.Repeat("]", 31)), api.ClassOK, api.OK},
		{body(strings.Repeat("[", 32) + strings.Repeat("]", 32)), api.ClassOK, api.OK}, // its depth is 31
		{body(strings.Repeat("[", 33) + strings.Repeat("]", 33)), api.ClassOverlimit, api.ErrDeep},
		{body(strings.Repeat("[", 32) + "1" + strings.Repeat("]", 32)), api.ClassOverlimit, api.ErrDeep},
		{body(nulls(65536 - 6)), api.ClassOK, api.OK},
		{body(nulls(65536 - 5)), api.ClassOverlimit, api.ErrNodes},
		{`{"op":"fly","body":` + nulls(65536) + `}`, api.ClassOverlimit, api.ErrNodes},
		{strings.Repeat("[", 34), api.ClassOverlimit, api.ErrDeep},
		{strings.Repeat("[", 33), api.ClassMalformed, api.ErrTextEnd},
	} {
		if r, class, e := checkParse(t, []byte(c.text)); class != c.class || e != c.e || e != api.OK && !same(r, api.Request{}) {
			t.Errorf("P22.1: %s: class %d, %d, want %d, %d", cut([]byte(c.text)), class, e, c.class, c.e)
		}
	}
}

func TestPrint(t *testing.T) {
	apply := api.Request{Op: 5, Kind: "app", Name: "x", Manager: "m"}
	for i, c := range []struct {
		r    api.Request
		text string
	}{
		{api.Request{Op: 3, After: 5, Limit: 10}, `{"after":5,"limit":10,"op":"events"}`},
		{api.Request{Op: 3}, `{"after":0,"op":"events"}`},
		{api.Request{Op: 3, Kind: "a"}, `{"after":0,"kind":"a","op":"events"}`},
		{api.Request{Op: 1, Kind: "app", Name: "x"}, `{"kind":"app","name":"x","op":"get"}`},
		{api.Request{Op: 1, Kind: "app", Name: "x", Body: api.Value{List: []api.Value{}, Map: []api.Member{}}}, `{"kind":"app","name":"x","op":"get"}`},
		{api.Request{Op: 2, Kind: "app"}, `{"kind":"app","op":"list"}`},
		{api.Request{Op: 2, Kind: "app", Selector: "a", Limit: 500, Continue: "\u00e9\x01"}, `{"continue":"é\u0001","kind":"app","limit":500,"op":"list","selector":"a"}`},
		{apply, `{"body":null,"kind":"app","manager":"m","name":"x","op":"apply"}`},
		{api.Request{Op: 5, Kind: "app", Name: "x", Manager: "m", Body: read(`{"a":[1]}`), Force: true, Rev: 7}, `{"body":{"a":[1]},"force":true,"kind":"app","manager":"m","name":"x","op":"apply","revision":7}`},
		{api.Request{Op: 10, Kind: "app", Name: "x", Rev: 7}, `{"kind":"app","name":"x","op":"delete","revision":7}`},
	} {
		if b, e := checkPrint(t, c.r); e != api.OK || string(b) != c.text {
			t.Errorf("P22.2: the case %d: %s, %d", i, b, e)
		}
	}
	for i, op := range opWords[4:10] {
		r := apply
		r.Op = 4 + i
		if b, e := checkPrint(t, r); e != api.OK || string(b) != write(op, "{}", "null") {
			t.Errorf("P22.2: %s, %d", b, e)
		}
	}
}

func TestPrintRefused(t *testing.T) {
	get := api.Request{Op: 1, Kind: "app", Name: "x"}
	apply := api.Request{Op: 5, Kind: "app", Name: "x", Manager: "m"}
	change := func(r api.Request, f func(r *api.Request)) api.Request { f(&r); return r }
	wide := make([]api.Value, 65535)
	for i, c := range []struct {
		r api.Request
		e api.Errno
	}{
		{api.Request{}, api.ErrRequest},
		{change(get, func(r *api.Request) { r.Op = 0 }), api.ErrRequest},
		{change(get, func(r *api.Request) { r.Op = 11 }), api.ErrRequest},
		{change(get, func(r *api.Request) { r.Op = -1 }), api.ErrRequest},
		{change(get, func(r *api.Request) { r.Op = -1 << 63 }), api.ErrRequest},
		{change(get, func(r *api.Request) { r.Op = 1<<63 - 1 }), api.ErrRequest},
		{change(get, func(r *api.Request) { r.Name = "" }), api.ErrRequest},
		{change(get, func(r *api.Request) { r.Kind = "" }), api.ErrRequest},
		{change(get, func(r *api.Request) { r.Kind = "\xff" }), api.ErrRequest},
		{change(get, func(r *api.Request) { r.Kind = "a\xff" }), api.ErrRequest},
		{change(get, func(r *api.Request) { r.Name = "x\xff" }), api.ErrRequest},
		{change(get, func(r *api.Request) { r.Rev = 1 }), api.ErrRequest},
		{change(get, func(r *api.Request) { r.Manager = "m" }), api.ErrRequest},
		{change(get, func(r *api.Request) { r.Force = true }), api.ErrRequest},
		{change(get, func(r *api.Request) { r.Body = object() }), api.ErrRequest},
		{change(get, func(r *api.Request) { r.Body = api.Value{Int: 1} }), api.ErrRequest},
		{change(get, func(r *api.Request) { r.Body = api.Value{Kind: 9} }), api.ErrRequest},
		{change(get, func(r *api.Request) { r.After = 1 }), api.ErrRequest},
		{change(get, func(r *api.Request) { r.Limit = -1 }), api.ErrRequest},
		{api.Request{Op: 2, Kind: "app", Selector: "\xff"}, api.ErrRequest},
		{api.Request{Op: 2, Kind: "app", Continue: "\xff"}, api.ErrRequest},
		{api.Request{Op: 2, Kind: "app", Selector: strings.Repeat("s", 4097)}, api.ErrRequest},
		{api.Request{Op: 2, Kind: "app", Selector: strings.Repeat("s", 4096)}, api.OK},
		{api.Request{Op: 2, Kind: "app", Limit: -1}, api.ErrRequest},
		{api.Request{Op: 2, Kind: "app", Limit: 501}, api.ErrRequest},
		{api.Request{Op: 3, After: -1}, api.ErrRequest},
		{api.Request{Op: 3, After: 1 << 53}, api.ErrRequest},
		{api.Request{Op: 3, After: 1<<53 - 1}, api.OK},
		{change(apply, func(r *api.Request) { r.Manager = "" }), api.ErrRequest},
		{change(apply, func(r *api.Request) { r.Manager = "\xff" }), api.ErrRequest},
		{change(apply, func(r *api.Request) { r.Manager = strings.Repeat("m", 65) }), api.ErrRequest},
		{change(apply, func(r *api.Request) { r.Manager = strings.Repeat("m", 64) }), api.OK},
		{change(apply, func(r *api.Request) { r.Rev = -1 }), api.ErrRequest},
		{change(apply, func(r *api.Request) { r.Rev = 1 << 53 }), api.ErrRequest},
		{change(apply, func(r *api.Request) { r.Rev = 1<<53 - 1 }), api.OK},
		{change(apply, func(r *api.Request) { r.Body = api.Value{Kind: 9} }), api.ErrRequest},
		{change(apply, func(r *api.Request) { r.Body = api.Value{Str: "x"} }), api.ErrRequest},
		{change(apply, func(r *api.Request) { r.Body = object(at("b", num(1)), at("a", num(1))) }), api.ErrRequest},
		{change(apply, func(r *api.Request) { r.Body = str("\xff") }), api.ErrRequest},
		{change(apply, func(r *api.Request) { r.Body = deep(31) }), api.OK},
		{change(apply, func(r *api.Request) { r.Body = deep(32) }), api.ErrDeep},
		{change(apply, func(r *api.Request) { r.Body = deep(40) }), api.ErrDeep},
		{change(apply, func(r *api.Request) { r.Body = list(deep(40)) }), api.ErrRequest},
		{change(apply, func(r *api.Request) { r.Body, r.Op = deep(32), 12 }), api.ErrRequest},
		{change(apply, func(r *api.Request) { r.Body = list(wide[:65530]...) }), api.OK},
		{change(apply, func(r *api.Request) { r.Body = list(wide[:65531]...) }), api.ErrNodes},
		{change(apply, func(r *api.Request) { r.Body = list(append(wide, api.Value{})...) }), api.ErrRequest},
		{change(apply, func(r *api.Request) { r.Body = str(strings.Repeat("b", api.MaxText)) }), api.ErrBytes},
		{change(apply, func(r *api.Request) { r.Body = str(strings.Repeat("b", api.MaxText+1)) }), api.ErrRequest},
		{change(apply, func(r *api.Request) { r.Body = str(strings.Repeat("b", api.MaxText-40)) }), api.ErrTextLong},
		{change(apply, func(r *api.Request) { r.Body = str(strings.Repeat("\x01", 400000)) }), api.ErrTextLong},
		{api.Request{Op: 2, Kind: "app", Continue: strings.Repeat("c", api.MaxText+1)}, api.ErrBytes},
		{api.Request{Op: 2, Kind: "app", Continue: strings.Repeat("c", api.MaxText-40)}, api.OK},
		{api.Request{Op: 2, Kind: "app", Continue: strings.Repeat("c", api.MaxText-39)}, api.ErrTextLong},
	} {
		if b, e := checkPrint(t, c.r); e != c.e || e != api.OK && b != nil {
			t.Errorf("P22.2: the case %d: %s, %d, want %d", i, cut(b), e, c.e)
		}
	}
}

func TestAnswer(t *testing.T) {
	o := of(`{"a":1}`, entry("m", api.ByApply, ".a"))
	const own = `"owners":[{"fields":{".a":{}},"manager":"m","way":"apply"}]`
	for i, c := range []struct {
		a    api.Answer
		text string
	}{
		{api.Answer{Class: 1, Op: 1, There: true}, `{"class":"ok","owners":[],"revision":0,"value":null}`},
		{api.Answer{Class: 1, Op: 1, There: true, Rev: 9007199254740991, Object: o}, `{"class":"ok",` + own + `,"revision":9007199254740991,"value":{"a":1}}`},
		{api.Answer{Class: 1, Op: 10, Rev: 7}, `{"class":"ok","revision":7}`},
		{api.Answer{Class: 1, Op: 2, Rev: 7}, `{"class":"ok","items":[],"next":"","revision":7}`},
		{api.Answer{Class: 1, Op: 2, Rev: 9, Next: "tok\"", Items: []api.Found{{Name: "x", Rev: 3, Object: o}, {}}}, `{"class":"ok","items":[{"name":"x",` + own + `,"revision":3,"value":{"a":1}},{"name":"","owners":[],"revision":0,"value":null}],"next":"tok\"","revision":9}`},
		{api.Answer{Class: 1, Op: 3}, `{"class":"ok","events":[],"floor":0,"revision":0}`},
		{api.Answer{Class: 1, Op: 3, Rev: 9, Floor: 2, Events: []api.Seen{{Name: "app/x", Rev: 3, Kind: 2, Object: o}, {Kind: 1}, {Kind: 3, Name: "\u00e9", Rev: 1}}}, `{"class":"ok","events":[{"event":"swapped","key":"app/x",` + own + `,"revision":3,"value":{"a":1}},{"event":"created","key":"","owners":[],"revision":0,"value":null},{"event":"removed","key":"é","owners":[],"revision":1,"value":null}],"floor":2,"revision":9}`},
		{api.Answer{Class: 2}, `{"class":"malformed"}`},
		{api.Answer{Class: 3}, `{"class":"overlimit"}`},
		{api.Answer{Class: 4}, `{"class":"badrequest"}`},
		{api.Answer{Class: 5}, `{"class":"violation","where":""}`},
		{api.Answer{Class: 5, Where: "/a/0"}, `{"class":"violation","where":"/a/0"}`},
		{api.Answer{Class: 6}, `{"class":"unfit"}`},
		{api.Answer{Class: 7}, `{"class":"notfound"}`},
		{api.Answer{Class: 8}, `{"class":"exists"}`},
		{api.Answer{Class: 9}, `{"class":"stale","revision":0}`},
		{api.Answer{Class: 9, Rev: 5, Items: []api.Found{}, Events: []api.Seen{}, Conflicts: []api.Conflict{}, Object: api.Object{Entries: []api.Entry{}, Value: api.Value{List: []api.Value{}}}}, `{"class":"stale","revision":5}`},
		{api.Answer{Class: 10, Conflicts: []api.Conflict{conflict("m", 1, "")}}, `{"class":"conflict","conflicts":[{"fields":{".":{}},"manager":"m","way":"apply"}],"revision":0}`},
		{api.Answer{Class: 10, Rev: 3, Conflicts: []api.Conflict{conflict("m", 1, ".a"), conflict("n", 2, ".a"), conflict("m", 1, ".b")}}, `{"class":"conflict","conflicts":[{"fields":{".a":{},".b":{}},"manager":"m","way":"apply"},{"fields":{".a":{}},"manager":"n","way":"update"}],"revision":3}`},
		{api.Answer{Class: 10, Rev: 3, Conflicts: []api.Conflict{conflict("n", 1, ".a"), conflict("n", 2, ".a.b"), conflict("m", 2, ".b"), conflict("n", 1, ".b")}}, `{"class":"conflict","conflicts":[{"fields":{".b":{}},"manager":"m","way":"update"},{"fields":{".a":{},".b":{}},"manager":"n","way":"apply"},{"fields":{".a":{".b":{}}},"manager":"n","way":"update"}],"revision":3}`},
		{api.Answer{Class: 11}, `{"class":"expired"}`},
		{api.Answer{Class: 12}, `{"class":"exhausted"}`},
	} {
		if b, e := checkAnswer(t, c.a); e != api.OK || string(b) != c.text {
			t.Errorf("P22.3: the case %d: %s, %d", i, b, e)
		}
		if a, e := checkRead(t, []byte(c.text)); e != api.OK || !same(a, c.a) {
			t.Errorf("P22.3: the case %d is read %s, %d", i, cut(a), e)
		}
	}
}

// names is conflicts at one path of so many managers.
func names(n int) []api.Conflict {
	var l []api.Conflict
	for i := range n {
		l = append(l, conflict(fmt.Sprintf("m%03d", i), api.ByApply, ".a"))
	}
	return l
}

// entries is entries of so many managers.
func entries(n int) []api.Entry { return grouped(names(n)) }

func TestAnswerRefused(t *testing.T) {
	o := of(`{"a":1}`, entry("m", api.ByApply, ".a"))
	got := func(o api.Object) api.Answer { return api.Answer{Class: 1, Op: 1, There: true, Object: o} }
	list1 := func(x api.Found) api.Answer { return api.Answer{Class: 1, Op: 2, Items: []api.Found{{}, x}} }
	events := func(x api.Seen) api.Answer {
		return api.Answer{Class: 1, Op: 3, Events: []api.Seen{{Kind: 1}, x}}
	}
	clash := func(l ...api.Conflict) api.Answer { return api.Answer{Class: 10, Rev: 1, Conflicts: l} }
	for i, a := range []api.Answer{
		{}, {Class: 13}, {Class: -1}, {Class: 1 << 62}, {Class: -1 << 63}, {Class: 7, Rev: 7}, {Class: 7, Rev: -1}, {Class: 1, Rev: 7}, {Class: 1, Op: 4}, {Class: 1, Op: 5}, {Class: 1, Op: 6}, {Class: 1, Op: 7}, {Class: 1, Op: 8}, {Class: 1, Op: 9}, {Class: 1, Op: 11}, {Class: 1, Op: -1}, {Class: 9, Op: 10}, {Class: 2, Op: 1}, {Class: 7, Op: 1, There: true},
		{Class: 1, Op: 1, Object: o}, {Class: 1, Op: 10, There: true}, {Class: 1, Op: 10, Object: o}, {Class: 1, Op: 10, Object: api.Object{Value: num(0)}}, {Class: 1, Op: 10, Object: api.Object{Value: api.Value{Int: 1}}}, {Class: 1, Op: 10, Object: api.Object{Entries: o.Entries}}, {Class: 7, There: true}, {Class: 1, Op: 10, Floor: 1}, {Class: 1, Op: 1, There: true, Floor: 1},
		{Class: 9, Rev: -1}, {Class: 9, Rev: 1 << 53}, {Class: 1, Op: 3, Floor: -1}, {Class: 1, Op: 3, Floor: 1 << 53}, {Class: 1, Op: 2, Floor: 1}, {Class: 1, Op: 3, Next: "x"}, {Class: 1, Op: 2, Where: "x"}, {Class: 1, Op: 2, Next: "\xff"}, {Class: 9, Where: "x"}, {Class: 5, Where: "\xff"}, {Class: 5, Where: strings.Repeat("w", 4097)}, {Class: 5, Rev: 1},
		{Class: 1, Op: 2, Events: []api.Seen{{Kind: 1}}}, {Class: 1, Op: 3, Items: []api.Found{{}}}, {Class: 9, Items: []api.Found{{}}}, {Class: 9, Events: []api.Seen{{Kind: 1}}}, {Class: 1, Op: 10, Conflicts: names(1)},
		got(api.Object{Value: api.Value{Kind: 9}}), got(api.Object{Value: list(deep(40))}), got(api.Object{Entries: entries(65)}), got(api.Object{Entries: []api.Entry{{Manager: "m", Way: 1}}}), got(api.Object{Entries: []api.Entry{entry("m", 3, ".a")}}), got(api.Object{Entries: []api.Entry{entry("", 1, ".a")}}), got(api.Object{Entries: []api.Entry{entry("m", 1, ".b", ".a")}}), got(api.Object{Entries: []api.Entry{{Manager: "m", Way: 1, Fields: []api.Path{{{}}}}}}),
		list1(api.Found{Rev: -1}), list1(api.Found{Rev: 1 << 53}), list1(api.Found{Name: "\xff"}), list1(api.Found{Object: api.Object{Value: api.Value{Int: 1}}}), list1(api.Found{Object: api.Object{Entries: []api.Entry{{}}}}),
		events(api.Seen{}), events(api.Seen{Kind: 4}), events(api.Seen{Kind: -1}), events(api.Seen{Kind: 1, Rev: -1}), events(api.Seen{Kind: 1, Rev: 1 << 53}), events(api.Seen{Kind: 1, Name: "\xff"}), events(api.Seen{Kind: 1, Object: api.Object{Value: str("\xff")}}), events(api.Seen{Kind: 1, Object: api.Object{Entries: entries(65)}}),
		clash(), clash(conflict("", 1, ".a")), clash(conflict("\xff", 1, ".a")), clash(conflict(strings.Repeat("m", 65), 1, ".a")), clash(conflict("m", 0, ".a")), clash(conflict("m", 3, ".a")), clash(names(65)...), clash(api.Conflict{Manager: "m", Way: 1, Path: api.Path{{}}}), clash(conflict("m", 1, ".a"), conflict("m", 1, ".a")), clash(conflict("m", 1, ".a"), conflict("m", 2, ".a")),
		clash(conflict("m", 1, ".b"), conflict("m", 1, ".a")), clash(conflict("m", 1, ".b"), conflict("n", 1, ".a")), clash(conflict("n", 1, ".a"), conflict("m", 1, ".a")), clash(conflict("m", 1, ".a.b"), conflict("n", 1, ".a")), clash(conflict("m", 1, ".a"), conflict("n", 2, ".a"), conflict("n", 1, ".a.b"), conflict("m", 1, ".a.b.c"), conflict("m", 1, ".a.b")),
	} {
		if b, e := checkAnswer(t, a); e != api.ErrRequest || b != nil {
			t.Errorf("P22.3: the case %d: %s, %d", i, cut(b), e)
		}
	}
	for i, a := range []api.Answer{{Class: 5, Where: strings.Repeat("w", 4096)}, {Class: 9, Rev: 1<<53 - 1}, {Class: 1, Op: 3, Floor: 1<<53 - 1}, got(api.Object{Entries: entries(64)}), clash(names(64)...), list1(api.Found{Rev: 1<<53 - 1, Name: strings.Repeat("/", 5000)}), events(api.Seen{Kind: 3, Rev: 1<<53 - 1})} {
		if b, e := checkAnswer(t, a); e != api.OK {
			t.Errorf("P22.3: what just may be, %d: %s, %d", i, cut(b), e)
		}
	}
}

// wide is an entry with so many paths, each with a name of so many bytes.
func wide(n, bytes int) []api.Entry {
	x := api.Entry{Manager: "m", Way: api.ByApply}
	for i := range n {
		x.Fields = append(x.Fields, api.Path{{Kind: api.ElemField, Name: fmt.Sprintf("%0*d", bytes, i)}})
	}
	return []api.Entry{x}
}

// collide is a conflict at every path of an entry.
func collide(l []api.Entry) []api.Conflict {
	var to []api.Conflict
	for _, p := range l[0].Fields {
		to = append(to, api.Conflict{Manager: l[0].Manager, Way: l[0].Way, Path: p})
	}
	return to
}

// The errors of what is too large: entries first, then the whole.
func TestAnswerBound(t *testing.T) {
	many, long := wide(65536, 5), wide(2, 600000)
	nulls := func(n int) api.Value { return list(make([]api.Value, n)...) }
	letters := func(n int) api.Value { return str(strings.Repeat("b", n)) }
	got := func(v api.Value, l []api.Entry) api.Answer {
		return api.Answer{Class: 1, Op: 1, There: true, Object: api.Object{Value: v, Entries: l}}
	}
	list1 := func(l ...api.Object) api.Answer {
		a := api.Answer{Class: 1, Op: 2}
		for _, o := range l {
			a.Items = append(a.Items, api.Found{Object: o})
		}
		return a
	}
	events := func(l ...api.Object) api.Answer {
		a := api.Answer{Class: 1, Op: 3}
		for _, o := range l {
			a.Events = append(a.Events, api.Seen{Kind: 1, Object: o})
		}
		return a
	}
	empty := len(`{"class":"ok","owners":[],"revision":0,"value":""}`)
	for i, c := range []struct {
		a api.Answer
		e api.Errno
	}{
		{got(deep(39), nil), api.OK},
		{got(deep(40), nil), api.ErrDeep},
		{got(deep(40), many), api.ErrNodes},
		{got(deep(40), long), api.ErrBytes},
		{got(api.Value{Kind: 9}, many), api.ErrRequest},
		{got(nulls(65531), nil), api.OK},
		{got(nulls(65532), nil), api.ErrNodes},
		{got(nulls(65535), nil), api.ErrNodes},
		{got(nulls(65536), nil), api.ErrRequest},
		{got(letters(api.MaxText), nil), api.ErrBytes},
		{got(letters(api.MaxText-empty), nil), api.OK},
		{got(letters(api.MaxText-empty+1), nil), api.ErrTextLong},
		{got(letters(api.MaxText-empty+1), long), api.ErrBytes},
		{got(nulls(1), wide(60000, 5)), api.OK},
		{got(nulls(10000), wide(60000, 5)), api.ErrNodes},
		{list1(api.Object{Value: deep(37)}), api.OK},
		{list1(api.Object{Value: deep(38)}), api.ErrDeep},
		{list1(api.Object{}, api.Object{Entries: many}, api.Object{Entries: long}), api.ErrNodes},
		{list1(api.Object{}, api.Object{Entries: long}, api.Object{Entries: many}), api.ErrBytes},
		{list1(api.Object{Value: deep(40)}, api.Object{Entries: long}), api.ErrBytes},
		{list1(api.Object{Entries: long}, api.Object{Value: api.Value{Kind: 9}}), api.ErrRequest},
		{list1(api.Object{Value: nulls(65000)}, api.Object{Value: nulls(65000)}), api.ErrNodes},
		{list1(api.Object{Value: letters(600000)}, api.Object{Value: letters(600000)}), api.ErrBytes},
		{events(api.Object{Value: deep(37)}), api.OK},
		{events(api.Object{Value: deep(38)}), api.ErrDeep},
		{events(api.Object{Entries: long}, api.Object{Entries: many}), api.ErrBytes},
		{events(api.Object{Value: nulls(65000)}, api.Object{Value: nulls(65000)}), api.ErrNodes},
		{events(api.Object{Value: str(strings.Repeat("\x01", 100000))}, api.Object{Value: str(strings.Repeat("\x01", 100000))}), api.ErrTextLong},
		{api.Answer{Class: 10, Conflicts: collide(many)}, api.ErrNodes},
		{api.Answer{Class: 10, Conflicts: collide(long)}, api.ErrBytes},
		{api.Answer{Class: 10, Conflicts: collide(wide(30000, 5))}, api.OK},
		{api.Answer{Class: 1, Op: 2, Next: strings.Repeat("n", api.MaxText+1)}, api.ErrBytes},
		{api.Answer{Class: 1, Op: 2, Next: strings.Repeat("n", api.MaxText-47)}, api.ErrTextLong},
	} {
		if b, e := checkAnswer(t, c.a); e != c.e || e != api.OK && b != nil {
			t.Errorf("P22.3: the case %d: %s, %d, want %d", i, cut(b), e, c.e)
		}
	}
}

func TestReadRefused(t *testing.T) {
	const own = `"owners":[{"fields":{".a":{}},"manager":"m","way":"apply"}]`
	const got = `{"class":"ok",` + own + `,"revision":3,"value":{"a":1}}`
	const item = `{"name":"x","owners":[],"revision":3,"value":1}`
	const event = `{"event":"created","key":"app/x","owners":[],"revision":3,"value":1}`
	items := func(s string) string { return `{"class":"ok","items":[` + s + `],"next":"","revision":7}` }
	events := func(s string) string { return `{"class":"ok","events":[` + s + `],"floor":0,"revision":7}` }
	clash := func(s string) string { return `{"class":"conflict","conflicts":[` + s + `],"revision":3}` }
	for _, s := range []string{
		"5", "null", "{}", "[]", `""`, `"ok"`, `["class","notfound"]`, `{"class":"notfound" }`, ` {"class":"notfound"}`, "{\"class\":\"notfound\"}\n", `{"class":"none"}`, `{"class":""}`, `{"class":"Ok"}`, `{"class":"-"}`, `{"class":7}`, `{"class":null}`, `{"class":["notfound"]}`, `{"class":"n\u006ftfound"}`, `{"cl\u0061ss":"notfound"}`, `{"Class":"notfound"}`, `{"op":"get"}`, `{"class":"notfound","op":"get"}`, `{"class":"notfound","x":null}`, `{"class":"notfound","where":""}`, `{"class":"notfound","revision":0}`, `{"class":"notfound","conflicts":[]}`, `{"class":"notfound","items":[]}`,
		`{"class":"ok"}`, `{"class":"ok","revision":7,"x":1}`, `{"a":1,"class":"ok","revision":7}`, `{"revision":7,"class":"ok"}`, `{"class":"ok","revision":-1}`, `{"class":"ok","revision":-0}`, `{"class":"ok","revision":9007199254740992}`, `{"class":"ok","revision":"7"}`, `{"class":"ok","revision":null}`, `{"class":"ok","revision":[7]}`, `{"class":"ok","next":"","revision":7}`, `{"class":"ok","items":[],"revision":7}`, `{"class":"ok","items":[],"next":""}`, `{"class":"ok","items":[],"next":"","revision":7,"value":1}`, `{"class":"ok","items":[],"next":null,"revision":7}`, `{"class":"ok","items":null,"next":"","revision":7}`, `{"class":"ok","items":{},"next":"","revision":7}`, `{"class":"ok","events":[],"revision":7}`, `{"class":"ok","events":[],"floor":-1,"revision":7}`, `{"class":"ok","events":[],"floor":0,"items":[],"next":"","revision":7}`, `{"class":"ok","events":{},"floor":0,"revision":7}`, `{"class":"ok","owners":[],"revision":7}`, `{"class":"ok","revision":7,"value":1}`, `{"class":"ok","owners":[],"value":1}`, `{"class":"ok","owners":null,"revision":7,"value":1}`, `{"class":"ok","owners":{},"revision":7,"value":1}`, `{"class":"ok","owners":[],"revision":7,"value":1,"where":""}`,
		strings.Replace(got, "apply", "Apply", 1), strings.Replace(got, `"m"`, `""`, 1), strings.Replace(got, `".a":{}`, ``, 1), strings.Replace(got, ".a", "a", 1), strings.Replace(got, `}]`, `},{"fields":{".a":{}},"manager":"m","way":"update"}]`, 1), strings.Replace(got, `}]`, `},{"fields":{".a":{}},"manager":"l","way":"update"}]`, 1),
		items("null"), items("{}"), items("[]"), items(strings.Replace(item, `"x"`, "5", 1)), items(strings.Replace(item, `"x"`, "null", 1)), items(strings.Replace(item, `"name":"x",`, "", 1)), items(strings.Replace(item, `,"value":1`, "", 1)), items(strings.Replace(item, `"revision":3,`, "", 1)), items(strings.Replace(item, `"owners":[],`, "", 1)), items(strings.Replace(item, "3", "-3", 1)), items(strings.Replace(item, "3", "9007199254740992", 1)), items(strings.Replace(item, "}", `,"x":1}`, 1)), items(strings.Replace(item, `"name"`, `"key"`, 1)), items(event), items(item + `,` + strings.Replace(item, "[]", "5", 1)), items(strings.Replace(item, "{", `{"event":"created",`, 1)),
		events("null"), events(item), events(strings.Replace(event, "created", "made", 1)), events(strings.Replace(event, "created", "", 1)), events(strings.Replace(event, `"created"`, "1", 1)), events(strings.Replace(event, `"event":"created",`, "", 1)), events(strings.Replace(event, `"key":"app/x",`, "", 1)), events(strings.Replace(event, `"key":"app/x"`, `"name":"app/x"`, 1)), events(strings.Replace(event, "3", "true", 1)), events(event + `,` + strings.Replace(event, "created", "Created", 1)),
		`{"class":"violation"}`, `{"class":"violation","where":null}`, `{"class":"violation","where":5}`, `{"class":"violation","revision":5}`, `{"class":"violation","where":"` + strings.Repeat("w", 4097) + `"}`, `{"class":"stale"}`, `{"class":"stale","revision":-1}`, `{"class":"stale","where":""}`,
		clash(""), clash("null"), clash("{}"), clash(`{"fields":{},"manager":"m","way":"apply"}`), clash(`{"fields":{".a":{}},"manager":"m"}`), clash(`{"fields":{".a":{}},"manager":"m","way":"apply","x":1}`), clash(`{"fields":{".a":{}},"manager":"n","way":"apply"},{"fields":{".a":{}},"manager":"m","way":"apply"}`), clash(`{"fields":{".a":{}},"manager":"m","way":"apply"},{"fields":{".a":{}},"manager":"m","way":"update"}`), `{"class":"conflict","revision":3}`, `{"class":"conflict","conflicts":{},"revision":3}`, `{"class":"conflict","conflicts":[{"fields":{".a":{}},"manager":"m","way":"apply"}]}`, `{"class":"conflict","conflicts":[{"manager":"m","path":".a","way":"apply"}],"revision":3}`,
	} {
		if a, e := checkRead(t, []byte(s)); e != api.ErrRequest || !same(a, api.Answer{}) {
			t.Errorf("P22.3: %s: %s, %d", cut(s), cut(a), e)
		}
	}
	for _, s := range []string{got, items(""), items(item), items(item + "," + item), events(event), events(event + "," + strings.Replace(event, "created", "removed", 1)), clash(`{"fields":{".":{},".a":{}},"manager":"m","way":"update"}`), `{"class":"violation","where":"` + strings.Repeat("w", 4096) + `"}`} {
		if a, e := checkRead(t, []byte(s)); e != api.OK {
			t.Errorf("P22.3: %s: %s, %d", cut(s), cut(a), e)
		}
	}
}

// What is no text, or too much of one: the errors of json, with the depth of records.
func TestReadText(t *testing.T) {
	got := func(s string) string { return `{"class":"ok","owners":[],"revision":0,"value":` + s + `}` }
	nest := func(n int) string { return got(strings.Repeat("[", n) + strings.Repeat("]", n)) }
	for _, c := range []struct {
		text string
		e    api.Errno
	}{
		{"", api.ErrTextEnd}, {`{"class":`, api.ErrTextEnd}, {`{"class":"ok","class":"ok"}`, api.ErrTextKey}, {`{"class":"notfound"}x`, api.ErrTextMore}, {`{"class":01}`, api.ErrTextNum}, {"{\"class\":\"\xff\"}", api.ErrUTF}, {`{"class":'`, api.ErrTextByte},
		{strings.Repeat(" ", 1048577), api.ErrTextLong},
		{nest(33), api.OK}, {nest(40), api.OK}, {nest(41), api.ErrDeep},
		{got("[" + strings.Repeat("1,", 65530) + "1]"), api.OK}, {got("[" + strings.Repeat("1,", 65531) + "1]"), api.ErrNodes},
	} {
		if a, e := checkRead(t, []byte(c.text)); e != c.e || e != api.OK && !same(a, api.Answer{}) {
			t.Errorf("P22.3: %s: %s, %d, want %d", cut(c.text), cut(a), e, c.e)
		}
	}
}
