package value

import (
	"math/rand"
	"strings"
	"testing"

	"freehold/api"
)

// notTaken are values of which no call but Check tells more than that.
func notTaken() []api.Value {
	return []api.Value{
		{Kind: 6}, {Kind: 9}, {Kind: -1}, {Kind: api.Bool, Int: 1}, {Kind: api.Int, Bool: true}, {Str: "x"}, {Kind: api.Map, Str: "x"},
		text("\xff"), list(null, text("\xc3")), object(at("b", null), at("a", null)), object(at("a", num(1)), at("a", num(1))), object(at("\xff", null)),
		lists(41, null), maps(41, null), nulls(65536), text(strings.Repeat("x", 1048577)), object(at("k", text(strings.Repeat("x", 1048576)))),
		within(make([]api.Value, 2), 1), object(at("a", within(make([]api.Value, 1), 0))),
	}
}

// risingValues are values each of which stands ahead of all behind it.
func risingValues() []api.Value {
	return []api.Value{
		null, boolean(false), boolean(true), num(-1 << 63), num(-5), num(0), num(3), num(1<<63 - 1),
		text(""), text("\x00"), text("B"), text("a"), text("ab"), text("b"), text("\u00e9"), text("\uffff"), text("\U00010000"),
		list(), list(null), list(null, null), list(num(1)), list(num(1), num(1)), list(num(2)), list(num(2), null), list(text("")), list(list()), list(list(null)), list(object()),
		object(), object(at("", num(9))), object(at("a", null)), object(at("a", num(1))), object(at("a", num(1)), at("b", num(0))), object(at("a", num(1)), at("c", null)), object(at("a", num(2))), object(at("b", num(0))),
	}
}

func checkOrder(t *testing.T, a, b api.Value, want int) {
	t.Helper()
	if c := Compare(a, b); c != want {
		t.Errorf("P2.3: Compare(%+v, %+v) = %d, want %d", a, b, c, want)
	}
	if same := Equal(a, b); same != (want == 0) {
		t.Errorf("P2.3: Equal(%+v, %+v) = %v", a, b, same)
	}
}

func TestCompareRising(t *testing.T) {
	examples := []api.Value{
		null, boolean(false), boolean(true), num(-5), num(3), text(""), text("a"), text("ab"), text("b"),
		list(), list(null), list(num(1)), list(num(1), num(1)), list(num(2)),
		object(), object(at("a", num(1))), object(at("a", num(1)), at("b", num(0))), object(at("a", num(2))), object(at("b", num(0))),
	}
	for _, l := range [][]api.Value{examples, risingValues()} {
		for i, a := range l {
			for k, b := range l {
				want := 0
				if i < k {
					want = -1
				} else if i > k {
					want = 1
				}
				checkOrder(t, a, roomy(b), want)
			}
		}
	}
}

func TestCompareOfKindsByTheirNumbers(t *testing.T) {
	l := []api.Value{null, boolean(true), num(1<<63 - 1), text("zzz"), list(object(at("z", null))), object()}
	for i, a := range l {
		for k, b := range l {
			if c := Compare(a, b); c != max(-1, min(1, i-k)) {
				t.Errorf("P2.3: of the kinds %d and %d: %d", i, k, c)
			}
		}
	}
}

func TestCompareOfWhatIsNotTaken(t *testing.T) {
	for i, bad := range notTaken() {
		for _, v := range []api.Value{null, num(1), text("a"), list(), object(at("z", null)), bad} {
			if Compare(bad, v) != 0 || Compare(v, bad) != 0 {
				t.Errorf("P2.3: Compare with the value %d that is not taken is not 0", i)
			}
			if Equal(bad, v) || Equal(v, bad) {
				t.Errorf("P2.3: Equal with the value %d that is not taken", i)
			}
		}
	}
}

func TestCompareAtTheLimits(t *testing.T) {
	long := strings.Repeat("x", 1048575)
	checkOrder(t, lists(40, null), lists(39, null), 1)
	checkOrder(t, lists(40, num(1)), lists(40, num(1)), 0)
	checkOrder(t, lists(39, num(1)), lists(39, num(2)), -1)
	if Compare(text(long+"a"), text(long+"b")) != -1 || !Equal(text(long+"a"), text(long+"a")) || Equal(text(long), text(long+"a")) {
		t.Error("P2.3: of long strings")
	}
	a, b := nulls(65535), nulls(65535)
	if !Equal(a, b) || Compare(nulls(65534), a) != -1 {
		t.Error("P2.3: of long lists")
	}
	b.List[65534] = boolean(false)
	if Equal(a, b) || Compare(a, b) != -1 || Compare(b, a) != 1 {
		t.Error("P2.3: of long lists that are unlike at their ends")
	}
}

func TestCompareByTheWords(t *testing.T) {
	r, seen := rand.New(rand.NewSource(23)), map[int]int{}
	for range 60000 {
		a, b := pick(r, 4), pick(r, 4)
		if r.Intn(2) == 0 {
			b = nearly(r, a)
		}
		want := wantCompare(a, b)
		seen[want]++
		if c := Compare(a, b); c != want {
			t.Fatalf("P2.3: Compare(%+v, %+v) = %d, want %d", a, b, c, want)
		}
		if Equal(a, b) != (want == 0) {
			t.Fatalf("P2.3: Equal(%+v, %+v)", a, b)
		}
	}
	if seen[0] < 100 || seen[1] < 100 || seen[-1] < 100 {
		t.Errorf("too few of one answer: %v", seen)
	}
}

// nearly is a value in memory of its own with a scalar in it, or nothing, changed.
func nearly(r *rand.Rand, v api.Value) api.Value {
	v = roomy(v)
	if n := len(v.List); n > 0 {
		i := r.Intn(n)
		v.List[i] = nearly(r, v.List[i])
		return v
	}
	if n := len(v.Map); n > 0 {
		i := r.Intn(n)
		v.Map[i].Val = nearly(r, v.Map[i].Val)
		return v
	}
	if r.Intn(2) == 0 {
		return pick(r, 0)
	}
	return v
}

func TestCompareIsAnOrder(t *testing.T) {
	r, pool := rand.New(rand.NewSource(27)), risingValues()
	for range 60 {
		pool = append(pool, pick(r, 3))
	}
	for _, a := range pool {
		if Compare(a, a) != 0 {
			t.Fatalf("P2.7: %+v is not the same as itself", a)
		}
		for _, b := range pool {
			ab := Compare(a, b)
			if ab != -Compare(b, a) {
				t.Fatalf("P2.7: %+v and %+v have no one order", a, b)
			}
			if (ab == 0) != (mark(a) == mark(b)) {
				t.Fatalf("P2.7: Compare(%+v, %+v) = %d", a, b, ab)
			}
			for _, c := range pool {
				if ab <= 0 && Compare(b, c) <= 0 && Compare(a, c) != min(ab, Compare(b, c)) {
					t.Fatalf("P2.7: %+v, %+v, %+v are in no order", a, b, c)
				}
			}
		}
	}
}

func TestScalar(t *testing.T) {
	for _, v := range []api.Value{boolean(false), boolean(true), num(0), num(-1 << 63), num(7), text(""), text("a"), text(strings.Repeat("x", 1048576)), {Kind: api.Int, List: []api.Value{}}} {
		if !Scalar(v) {
			t.Errorf("P2.4: Scalar of the kind %d: false", v.Kind)
		}
	}
	for _, v := range append(notTaken(), null, list(), list(num(1)), object(), object(at("a", num(1)))) {
		if Scalar(v) {
			t.Errorf("P2.4: Scalar of the kind %d: true", v.Kind)
		}
	}
}

func TestClone(t *testing.T) {
	r := rand.New(rand.NewSource(24))
	pool := append(risingValues(), lists(40, null), maps(40, list()), nulls(65535))
	for range 2000 {
		pool = append(pool, pick(r, 5))
	}
	for _, v := range pool {
		given := roomy(v)
		c := Clone(given)
		if Check(c, 40) != api.OK || mark(c) != mark(v) {
			t.Fatalf("P2.4: Clone(%+v) = %+v", v, c)
		}
		if wantNodes(v) < 1000 {
			checkApart(t, "Clone", c, given)
		}
	}
	for i, bad := range notTaken() {
		if !isNull(Clone(bad)) {
			t.Errorf("P2.4: Clone of the value %d that is not taken", i)
		}
	}
}
