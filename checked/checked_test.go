package checked_test

import (
	"cmp"
	"testing"

	"freehold/api"
	"freehold/checked"
	"freehold/path"
)

// rising is texts of paths in their order.
func rising() []string {
	return []string{"", `.""`, ".a", ".a.b", ".a[a=1]", ".a[=1]", ".a-", ".ab", ".b", "[a=false]", "[a=1]", "[a=1].x", "[a=1,b=1]", "[a=2]", `[a=""]`, "[b=0]", "[=false]", "[=true]", "[=-1]", "[=0]", "[=0].a", `[=""]`, `[="a"]`, `[="a"][=1]`}
}

func parsed(t *testing.T, s string) api.Path {
	t.Helper()
	p, _, e := path.Parse(s)
	if e != api.OK {
		t.Fatalf("%s is no path", s)
	}
	return p
}

// What is said of paths that were checked is what package path says of them.
func TestOrder(t *testing.T) {
	for i, s := range rising() {
		for k, x := range rising() {
			p, q := parsed(t, s), parsed(t, x)
			if c := checked.Order(p, q); c != cmp.Compare(i, k) || c != path.Compare(p, q) {
				t.Errorf("P9.2: Order(%s, %s) = %d", s, x, c)
			}
			if is := checked.Above(p, q); is != path.Above(p, q) || is != (len(p) <= len(q) && checked.Order(p, q[:len(p)]) == 0) {
				t.Errorf("P9.3: Above(%s, %s) = %v", s, x, is)
			}
			if len(p) == 1 && len(q) == 1 && checked.OrderElems(p[0], q[0]) != cmp.Compare(i, k) {
				t.Errorf("P9.2: OrderElems(%s, %s)", s, x)
			}
		}
	}
}

func TestCopy(t *testing.T) {
	for _, s := range rising() {
		p := parsed(t, s)
		q := checked.Copy(p)
		for i := range q {
			q[i].Name = "other"
			for k := range q[i].Key {
				q[i].Key[k].Val.Int++
			}
		}
		if text, e := path.Text(p); text != s || e != api.OK {
			t.Errorf("P9.10: what was written into a copy of %s is seen in it: %s", s, text)
		}
		if text, e := path.Text(checked.Copy(p)); text != s || e != api.OK {
			t.Errorf("P9.10: the copy of %s is %s", s, text)
		}
	}
}

// The parts of rising paths, one behind the other, as far as they are asked for.
func TestParts(t *testing.T) {
	type thing struct {
		way api.Path
		n   int
	}
	var l []thing
	for i, s := range []string{".x", ".a.a", ".a.b", ".a.b.c", ".a[id=1].x", ".a[id=1].y", ".a[id=2]", ".a[=1]", ".a[=1][=2]"} {
		l = append(l, thing{parsed(t, s), i})
	}
	way := func(x thing) api.Path { return x.way }
	for _, c := range []struct {
		from, depth, most int
		ends              []int
	}{{1, 1, 9, []int{2, 4, 6, 7, 9}}, {1, 0, 9, []int{9}}, {1, 1, 1, []int{2}}, {1, 1, 3, []int{2, 4, 6}}, {9, 1, 9, nil}} {
		from, k := c.from, 0
		for part := range checked.Parts(l[c.from:], c.depth, way) {
			if k >= len(c.ends) || len(part) != c.ends[k]-from || part[0].n != from {
				t.Fatalf("the part %d of %+v: %+v", k, c, part)
			}
			from, k = c.ends[k], k+1
			if k == c.most {
				break
			}
		}
		if k != len(c.ends) {
			t.Errorf("%d parts of %+v", k, c)
		}
	}
}
