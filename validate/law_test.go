package validate

import (
	"math/rand"
	"slices"
	"strconv"
	"testing"

	"freehold/api"
	"freehold/pointer"
	"freehold/schema"
	"freehold/value"
)

// names is what a schema's values may be asked for.
func names(s api.Schema) []string {
	l := []string{"int", "string", "bool"}
	for _, t := range s.Types {
		l = append(l, t.Name, t.Name)
	}
	return l
}

// Valid values and spoilt ones, of types of every sort, against the second reading.
func TestManyValues(t *testing.T) {
	r, counts, normal := rand.New(rand.NewSource(81)), map[api.Errno]int{}, 0
	for range 250 {
		s := pickSchema(r)
		if e := schema.Check(s); e != api.OK {
			t.Fatalf("a picked schema: %d", e)
		}
		for range 40 {
			typ := pickOf(r, names(s)...)
			v := pickValue(r, s, typ, 4)
			if e := checkAll(t, s, typ, v); e != api.OK {
				t.Fatalf("P8.2: Check(%+v, %s, %s) = %d", s, typ, show(v), e)
			}
			if r.Intn(2) == 0 {
				v, _ = Normal(s, typ, v)
			}
			for range 3 {
				v = spoil(r, v)
				counts[checkAll(t, s, typ, v)]++
				if IsNormal(s, typ, v) && value.Depth(v) > 1 {
					normal++
				}
			}
		}
	}
	for _, e := range []api.Errno{0, 80, 81, 82, 83, 84, 85} {
		if counts[e] < 100 {
			t.Errorf("few of one sort: %v", counts)
		}
	}
	if normal < 500 {
		t.Errorf("few are normal: %d", normal)
	}
}

// stir changes a valid value as P8.4 lets one change it without changing its normal form.
func stir(r *rand.Rand, s api.Schema, typ string, v api.Value, within bool) api.Value {
	t := follow(s, typ)
	within = within || isLeaf(t)
	switch v.Kind {
	case api.List:
		var l []api.Value
		for _, x := range v.List {
			l = append(l, stir(r, s, t.Elem, x, within))
		}
		if !within {
			r.Shuffle(len(l), func(i, k int) { l[i], l[k] = l[k], l[i] })
		}
		return list(l...)
	case api.Map:
		return stirMap(r, s, t, v, within)
	}
	return v
}

func stirMap(r *rand.Rand, s api.Schema, t api.Type, v api.Value, within bool) api.Value {
	to := object()
	for _, k := range []string{"", "a", "b", "c", "c/~", "new", "~1", "\u00e9"} {
		of := typeOfMember(t, k)
		i := slices.IndexFunc(v.Map, func(m api.Member) bool { return m.Key == k })
		empty := of != "" && !within && !isLeaf(follow(s, of))
		says := i >= 0 && v.Map[i].Val.Kind != api.Null && !(empty && len(v.Map[i].Val.List)+len(v.Map[i].Val.Map) == 0)
		switch n := r.Intn(3); {
		case says:
			to.Map = append(to.Map, at(k, stir(r, s, of, v.Map[i].Val, within)))
		case of != "" && n == 0:
			to.Map = append(to.Map, at(k, null))
		case empty && n == 1:
			x := object()
			if follow(s, of).Kind == api.TypeList {
				x = list()
			}
			if len(v.Map) > 0 { // not for ever
				x = stir(r, s, of, x, within)
			}
			to.Map = append(to.Map, at(k, x))
		}
	}
	return to
}

// The normal form is valid and its own normal form; what means the same has the same.
func TestNormalForms(t *testing.T) {
	r, moved := rand.New(rand.NewSource(82)), 0
	for range 400 {
		s := pickSchema(r)
		for range 25 {
			typ := pickOf(r, names(s)...)
			v := pickValue(r, s, typ, 5)
			n, e := Normal(s, typ, v)
			if e != api.OK {
				t.Fatalf("P8.3: Normal(%s, %s): %d", typ, show(v), e)
			}
			if place, e := Check(s, typ, n); place != "" || e != api.OK || !IsNormal(s, typ, n) {
				t.Fatalf("P8.4: the normal form %s of %s (%s): %q, %d", show(n), show(v), typ, place, e)
			}
			if again, e := Normal(s, typ, n); e != api.OK || !same(again, n) {
				t.Fatalf("P8.4: Normal(%s, %s) = %s, %d", typ, show(n), show(again), e)
			}
			for range 5 {
				w := stir(r, s, typ, v, false)
				if again, e := Normal(s, typ, w); e != api.OK || !same(again, n) {
					t.Fatalf("P8.4: %+v, %s: %s and %s have the normal forms %s and %s (%d)", s, typ, show(v), show(w), show(n), show(again), e)
				}
				if !same(v, w) {
					moved++
				}
			}
		}
	}
	if moved < 10000 {
		t.Errorf("few were stirred: %d", moved)
	}
}

// keyPlaces is the places of the key fields of a valid value.
func keyPlaces(s api.Schema, typ string, v api.Value, p string) []string {
	t := follow(s, typ)
	var l []string
	for i, x := range v.List {
		here := p + "/" + strconv.Itoa(i)
		for _, k := range t.Keys {
			l = append(l, here+"/"+k) // no key field's name has something to be written otherwise
		}
		l = append(l, keyPlaces(s, t.Elem, x, here)...)
	}
	for _, m := range v.Map {
		if token, _ := pointer.Print([]string{m.Key}); m.Val.Kind != api.Null {
			l = append(l, keyPlaces(s, typeOfMember(t, m.Key), m.Val, p+token)...)
		}
	}
	return l
}

// Whatever is taken out of a valid value, but a key field, leaves it valid; a key field does not.
func TestPartsTakenOut(t *testing.T) {
	r, parts, keys := rand.New(rand.NewSource(83)), 0, 0
	for range 300 {
		s := pickSchema(r)
		for range 10 {
			typ := pickOf(r, names(s)...)
			v := pickValue(r, s, typ, 4)
			kept := keyPlaces(s, typ, v, "")
			for _, p := range places(v, "")[1:] {
				rest, _, _ := pointer.Take(v, p)
				place, e := Check(s, typ, rest)
				if key := slices.Contains(kept, p); key && e != api.ErrKey || !key && e != api.OK {
					t.Fatalf("P8.4: %+v: %s without %s: %q, %d", s, show(v), p, place, e)
				} else if key {
					keys++
				} else {
					parts++
				}
			}
		}
	}
	if parts < 5000 || keys < 500 {
		t.Errorf("few were taken out: %d, %d", parts, keys)
	}
}

// Whatever a call is given, spare room included, stays; whatever it answers is memory of its own.
func TestMemory(t *testing.T) {
	r := rand.New(rand.NewSource(84))
	for range 400 {
		s := pickSchema(r)
		typ := pickOf(r, names(s)...)
		v := pickValue(r, s, typ, 5)
		if r.Intn(3) == 0 {
			v = spoil(r, v)
		}
		s, v = roomy(s), roomy(v)
		was := whole(s) + whole(v)
		Of(s, "app")
		Check(s, typ, v)
		IsNormal(s, typ, v)
		one, e := Normal(s, typ, v)
		two, _ := Normal(s, typ, v)
		if whole(s)+whole(v) != was {
			t.Fatalf("memory: %s: a call changed what it was given: %s", typ, show(v))
		}
		checkApart(t, "Normal", slices.Concat(rooms(s), rooms(v), rooms(one), rooms(two)))
		scribble(one)
		if three, f := Normal(s, typ, v); e != f || !same(two, three) {
			t.Fatalf("memory: what was written into an answer is seen in the next")
		}
	}
	leaf := roomy(num(7))
	if n, e := Normal(example(), "int", leaf); e != api.OK || !same(n, num(7)) || cap(n.List)+cap(n.Map) > 0 {
		t.Errorf("memory: Normal of a number with spare room: %s, %d", show(n), e)
	}
}
