package pathset

import (
	"strings"
	"testing"

	"freehold/api"
	"freehold/path"
)

// row is the paths of some texts.
func row(t *testing.T, texts ...string) []api.Path {
	t.Helper()
	var l []api.Path
	for _, s := range texts {
		p, _, e := path.Parse(s)
		if e != api.OK {
			t.Fatalf("%s is no path: %d", s, e)
		}
		l = append(l, p)
	}
	return l
}

// one is the path of a text.
func one(t *testing.T, s string) api.Path {
	t.Helper()
	return row(t, s)[0]
}

// told is the texts of some paths, a space behind each.
func told(l []api.Path) string {
	s := ""
	for _, p := range l {
		one, _ := path.Text(p)
		s += one + " "
	}
	return s
}

// wrong is paths that are none.
func wrong() []api.Path {
	deep := make(api.Path, 33)
	for i := range deep {
		deep[i] = field("a")
	}
	return []api.Path{{{}}, {{Kind: 4}}, {field("\xff")}, {field("a"), key()}, {item(api.Value{})}, {item(api.Value{Kind: api.List})}, {key(at("b", num(1)), at("a", num(1)))}, {{Kind: api.ElemField, Name: "a", Item: num(1)}}, deep}
}

func TestCheck(t *testing.T) {
	for _, c := range []struct {
		texts string
		want  api.Errno
	}{
		{"", api.OK}, {".a .a.b .c", api.OK}, {".c .a", api.ErrSet}, {".a .a", api.ErrSet}, {".a.b .a", api.ErrSet}, {".a .b .b", api.ErrSet}, {".a .c .b", api.ErrSet},
		{".z [id=1] [=1]", api.OK}, {"[=1] [id=1]", api.ErrSet}, {"[id=1] .z", api.ErrSet}, {`[id=1] [id="x"]`, api.OK}, {`[=false] [=true] [=-1] [=0] [=""]`, api.OK}, {"[=true] [=false]", api.ErrSet}, {"[=0] [=true]", api.ErrSet}, {`[=""] [=0]`, api.ErrSet},
		{"[a=1] [a=1,b=1] [a=1,c=0] [a=2] [b=0]", api.OK}, {"[a=1,b=1] [a=1]", api.ErrSet}, {".a[=1] .a[=1].b .a[=2]", api.OK},
	} {
		l := row(t, strings.Fields(c.texts)...)
		if e := Check(l); e != c.want {
			t.Errorf("P10.1: Check(%s) = %d, want %d", c.texts, e, c.want)
		}
		checkList(t, l, nil)
	}
	if e := Check([]api.Path{nil}); e != api.OK {
		t.Errorf("P10.1: the root alone: %d", e)
	}
	if e := Check([]api.Path{nil, {}}); e != api.ErrSet {
		t.Errorf("P10.1: the root twice, nil and empty: %d", e)
	}
	if e := Check([]api.Path{nil, steps("a")}); e != api.OK {
		t.Errorf("P10.1: the root ahead of .a: %d", e)
	}
	if e := Check([]api.Path{steps("a"), nil}); e != api.ErrSet {
		t.Errorf("P10.1: the root behind .a: %d", e)
	}
}

// Path by path: what is wrong first in the list is told, and of one path that it is none ahead of its place.
func TestOrderOfFaults(t *testing.T) {
	a, c := steps("a"), steps("c")
	for i, bad := range wrong() {
		for _, x := range []struct {
			l    []api.Path
			want api.Errno
		}{{[]api.Path{bad}, api.ErrPath}, {[]api.Path{bad, bad}, api.ErrPath}, {[]api.Path{a, bad}, api.ErrPath}, {[]api.Path{c, a, bad}, api.ErrSet}, {[]api.Path{a, a, bad}, api.ErrSet}, {[]api.Path{c, bad, a}, api.ErrPath}, {[]api.Path{bad, c, a}, api.ErrPath}, {[]api.Path{a, c, bad}, api.ErrPath}} {
			if e := checkList(t, x.l, a); e != x.want {
				t.Errorf("P10.1: wrong %d, Check(%s) = %d, want %d", i, show(x.l...), e, x.want)
			}
			other := []api.Path{c, a}
			if e := checkTwo(t, x.l, other); e != x.want {
				t.Errorf("P10.3: a list that is none ahead of another: %d, want %d", e, x.want)
			}
			if e := checkTwo(t, other, x.l); e != api.ErrSet {
				t.Errorf("P10.3: a list that is none behind another: %d", e)
			}
			if e := checkTwo(t, []api.Path{a}, x.l); e != x.want {
				t.Errorf("P10.3: a list that is none behind a set: %d, want %d", e, x.want)
			}
			if l, e := Of(x.l); e != api.ErrPath || len(l) != 0 {
				t.Errorf("P10.2: Of(%s) = %d", show(x.l...), e)
			}
			if _, e := Below(x.l, bad); e != x.want {
				t.Errorf("P10.4: Below(%s, no path) = %d, want %d", show(x.l...), e, x.want)
			}
		}
		if l, e := Below([]api.Path{a}, bad); e != api.ErrPath || len(l) != 0 {
			t.Errorf("P10.4: Below(.a, %s) = %d", show(bad), e)
		}
		if l, e := Below([]api.Path{c, a}, bad); e != api.ErrSet || len(l) != 0 {
			t.Errorf("P10.4: Below(.c .a, %s) = %d", show(bad), e)
		}
		if Has([]api.Path{a}, bad) || Has([]api.Path{bad}, bad) || Has([]api.Path{a, bad}, a) {
			t.Errorf("P10.2: Has, of %s", show(bad))
		}
	}
	if Has([]api.Path{c, a}, a) || Has([]api.Path{a, a}, a) || Has([]api.Path{a, c, a}, c) {
		t.Error("P10.2: Has, of lists that are no sets")
	}
}

func TestExamples(t *testing.T) {
	a := row(t, ".a", ".a.b", ".c")
	join := func(do func(a, b []api.Path) ([]api.Path, api.Errno), b ...string) string {
		l, e := do(a, row(t, b...))
		if e != api.OK {
			t.Errorf("P10.3: %d", e)
		}
		return told(l)
	}
	below := func(s string) string {
		l, e := Below(a, one(t, s))
		if e != api.OK {
			t.Errorf("P10.4: %d", e)
		}
		return told(l)
	}
	ends := func(texts ...string) string {
		l, e := Ends(row(t, texts...))
		if e != api.OK {
			t.Errorf("P10.4: %d", e)
		}
		return told(l)
	}
	of, _ := Of(row(t, ".c", ".a", ".c"))
	for _, c := range []struct{ what, got, want string }{
		{"P10.2: Of", told(of), ".a .c "},
		{"P10.3: Union", join(Union, ".b"), ".a .a.b .b .c "},
		{"P10.3: Union with nothing", join(Union), ".a .a.b .c "},
		{"P10.3: Meet", join(Meet, ".a.b", ".d"), ".a.b "},
		{"P10.3: Meet with nothing", join(Meet), ""},
		{"P10.3: Minus", join(Minus, ".a"), ".a.b .c "},
		{"P10.3: Minus nothing", join(Minus), ".a .a.b .c "},
		{"P10.3: Minus all", join(Minus, ".a", ".a.b", ".b", ".c", ".d"), ""},
		{"P10.4: Below .a", below(".a"), ".a.b "},
		{"P10.4: Below the root", below(""), ".a .a.b .c "},
		{"P10.4: Below .a.b", below(".a.b"), ""},
		{"P10.4: Below .b", below(".b"), ""},
		{"P10.4: Below .z", below(".z"), ""},
		{"P10.4: Ends", ends(".a", ".a.b", ".c"), ".a.b .c "},
		{"P10.4: Ends", ends("", ".x"), ".x "},
		{"P10.4: Ends of the root", ends(""), " "},
		{"P10.4: Ends of nothing", ends(), ""},
		{"P10.4: Ends", ends(".a", ".a-b", ".ab"), ".a .a-b .ab "},
	} {
		if c.got != c.want {
			t.Errorf("%s: %q, want %q", c.what, c.got, c.want)
		}
	}
	for _, c := range []struct {
		a, b []api.Path
		want bool
	}{{a[2:], a, true}, {a, a[2:], false}, {nil, nil, true}, {nil, a, true}, {a, nil, false}, {a, a, true}, {a[:1], a[1:], false}, {[]api.Path{nil}, a, false}} {
		if in, e := Within(c.a, c.b); in != c.want || e != api.OK {
			t.Errorf("P10.3: Within(%s, %s) = %v, %d", told(c.a), told(c.b), in, e)
		}
		checkTwo(t, c.a, c.b)
	}
}

// A name that begins with another one is not below it; what lies below may begin with any element.
func TestBelow(t *testing.T) {
	l := row(t, ".a", ".a.b", ".a.b.c", ".a[a=1]", ".a[a=1].x", ".a[=1]", ".a[=2]", ".aa", ".aa.b", ".b", "[a=1]", "[a=1,b=1]", "[a=1,b=1].x", "[a=1].x")
	l, _ = Of(l)
	for s, want := range map[string]string{
		".a":           ".a.b .a.b.c .a[a=1] .a[a=1].x .a[=1] .a[=2] ",
		".a.b":         ".a.b.c ",
		".a[a=1]":      ".a[a=1].x ",
		".a[a=2]":      "",
		".aa":          ".aa.b ",
		".aa.b":        "",
		"[a=1]":        "[a=1].x ",
		"[a=1,b=1]":    "[a=1,b=1].x ",
		".a[=1]":       "",
		".b":           "",
		"[=1]":         "",
		".c":           "",
		".a.b.c.d.e.f": "",
	} {
		if got, e := Below(l, one(t, s)); e != api.OK || told(got) != want {
			t.Errorf("P10.4: Below(%s) = %s, %d, want %s", s, told(got), e, want)
		}
		checkList(t, l, one(t, s))
	}
}

func TestTree(t *testing.T) {
	x := New()
	add := func(s string, want bool) {
		t.Helper()
		if got, e := x.Add(one(t, s)); got != want || e != api.OK {
			t.Errorf("P10.5: Add(%s) = %v, %d", s, got, e)
		}
	}
	drop := func(s string, want bool) {
		t.Helper()
		if got, e := x.Drop(one(t, s)); got != want || e != api.OK {
			t.Errorf("P10.5: Drop(%s) = %v, %d", s, got, e)
		}
	}
	below := func(s string, want int) {
		t.Helper()
		if got, e := x.DropBelow(one(t, s)); got != want || e != api.OK {
			t.Errorf("P10.5: DropBelow(%s) = %v, %d", s, got, e)
		}
	}
	has := func(s string, has, any bool) {
		t.Helper()
		if p := one(t, s); x.Has(p) != has || x.Any(p) != any {
			t.Errorf("P10.5: Has(%s) = %v, Any %v", s, x.Has(p), x.Any(p))
		}
	}
	holds := func(want string) {
		t.Helper()
		if l := x.All(); told(l) != want || x.Len() != len(l) {
			t.Errorf("P10.5: All = %s, Len %d, want %s", told(l), x.Len(), want)
		}
	}
	holds("")
	has("", false, false)
	below("", 0)
	drop("", false)
	add(".a.b", true)
	add(".a.b", false)
	has(".a", false, true)
	has("", false, true)
	has(".a.b", true, true)
	has(".a.b.c", false, false)
	add(".a", true)
	holds(".a .a.b ")
	below(".a", 2)
	drop(".a", false)
	holds("")
	add("[=1]", true)
	add("[a=1].x", true)
	add("", true)
	add("", false)
	add(".z.y.x", true)
	holds(" .z.y.x [a=1].x [=1] ")
	drop(".z.y", false)
	drop(".z", false)
	drop(".z.y.x.w", false)
	has(".z.y", false, true)
	drop("", true)
	drop("", false)
	has("", false, true)
	drop(".z.y.x", true)
	has(".z", false, false)
	below(".z", 0)
	below("[a=2]", 0)
	below("[a=1].x.y", 0)
	below("[a=1]", 1)
	holds("[=1] ")
	add("", true)
	below("", 2)
	holds("")
}

func TestTreeOfNone(t *testing.T) {
	var none *Tree
	for _, p := range append(wrong(), nil, steps("a")) {
		if ok, e := none.Add(p); ok || e != api.ErrNil {
			t.Errorf("P10.5: Add to a nil tree: %v, %d", ok, e)
		}
		if ok, e := none.Drop(p); ok || e != api.ErrNil {
			t.Errorf("P10.5: Drop from a nil tree: %v, %d", ok, e)
		}
		if n, e := none.DropBelow(p); n != 0 || e != api.ErrNil {
			t.Errorf("P10.5: DropBelow from a nil tree: %v, %d", n, e)
		}
		if none.Has(p) || none.Any(p) {
			t.Errorf("P10.5: a nil tree has %s", show(p))
		}
	}
	if none.Len() != 0 || len(none.All()) != 0 {
		t.Error("P10.5: a nil tree holds something")
	}
	zero := &Tree{}
	if ok, e := zero.Add(steps("a")); !ok || e != api.OK || zero.Len() != 1 {
		t.Errorf("P10.5: a tree that was not made by New: %v, %d", ok, e)
	}
}

// What is no path changes nothing.
func TestTreeOfNoPath(t *testing.T) {
	x := New()
	s := set{}
	for _, p := range row(t, ".a", ".a.b", "[=1]") {
		treeOps[0](t, x, s, p)
	}
	for _, bad := range wrong() {
		for _, op := range treeOps {
			op(t, x, s, bad)
			checkTree(t, x, s, bad, nil, steps("a"))
		}
	}
}
