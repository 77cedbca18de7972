package labels_test

import (
	"math/rand"
	"reflect"
	"strings"
	"testing"
	"unsafe"

	"gleaner/api"
	"gleaner/labels"
)

// some labels in any order, few of them and alike; now and then wrong ones.
func some(r *rand.Rand) []api.Label {
	names := []string{"a", "b", "ab", "B", "_", "__name__", "z9"}
	values := []string{"x", "y", "xy", "\"", "\\", "\n", "{}", "\xff"}
	var l []api.Label
	for _, i := range r.Perm(len(names))[:r.Intn(len(names))] {
		l = append(l, api.Label{Name: names[i], Value: values[r.Intn(len(values))]})
	}
	if len(l) > 0 {
		x := &l[r.Intn(len(l))]
		switch r.Intn(12) {
		case 0:
			x.Name = []string{"", "1", "a b", strings.Repeat("n", 41), "a"}[r.Intn(5)]
		case 1:
			x.Value = []string{"", strings.Repeat("v", 101)}[r.Intn(2)]
		}
	}
	return l
}

// right labels, some of them.
func right(r *rand.Rand) []api.Label {
	for {
		if l, e := labels.Make(some(r)); e == api.OK {
			return l
		}
	}
}

// C5: who takes a label away, and puts it there again, has the same; and With does just what it says.
func TestAwayAndBack(t *testing.T) {
	r := rand.New(rand.NewSource(1))
	for range 5000 {
		l := right(r)
		for _, x := range l {
			away, e := labels.With(l, x.Name, "")
			if v, f := labels.Get(away, x.Name); e != api.OK || f != api.OK || v != "" || len(away) != len(l)-1 {
				t.Fatalf("%q without %q is %q %d", l, x.Name, away, e)
			}
			back, e := labels.With(away, x.Name, x.Value)
			if e != api.OK || !same(back, l) {
				t.Fatalf("%q, without %q, and again, is %q %d", l, x.Name, back, e)
			}
		}
		m, e := labels.With(l, "b", "new")
		if v, f := labels.Get(m, "b"); e != api.OK || f != api.OK || v != "new" {
			t.Fatalf("%q with b is %q %d", l, m, e)
		}
	}
}

// C5: labels that are the same have one text, and one sum; what Make makes does not hang on the order.
func TestSameLabels(t *testing.T) {
	r := rand.New(rand.NewSource(2))
	for range 5000 {
		l := right(r)
		shuffled := append([]api.Label{}, l...)
		r.Shuffle(len(l), func(i, k int) { shuffled[i], shuffled[k] = shuffled[k], shuffled[i] })
		m, e := labels.Make(shuffled)
		if e != api.OK || !same(l, m) {
			t.Fatalf("%q is made %q %d", shuffled, m, e)
		}
		s, _ := labels.Text(l)
		u, _ := labels.Text(m)
		n, _ := labels.Sum(l)
		k, _ := labels.Sum(m)
		if s != u || n != k {
			t.Fatalf("%q: %s and %s, %d and %d", l, s, u, n, k)
		}
	}
}

// C5: what Compare tells is an order, and what it says is the same has one text.
func TestCompareIsAnOrder(t *testing.T) {
	r := rand.New(rand.NewSource(3))
	compare := func(a, b []api.Label) int {
		n, e := labels.Compare(a, b)
		if e != api.OK {
			t.Fatalf("%q and %q: %d", a, b, e)
		}
		return n
	}
	for range 50000 {
		a, b, c := right(r), right(r), right(r)
		if compare(a, b) != -compare(b, a) || compare(a, a) != 0 {
			t.Fatalf("%q and %q: one way, and the other", a, b)
		}
		if compare(a, b) <= 0 && compare(b, c) <= 0 && compare(a, c) > 0 {
			t.Fatalf("%q, %q and %q do not rise", a, b, c)
		}
		if (compare(a, b) == 0) != same(a, b) {
			t.Fatalf("%q and %q are the same, or not", a, b)
		}
	}
}

// P1: whatever is handed in is answered; P3: by the same, each time.
func TestAnything(t *testing.T) {
	r := rand.New(rand.NewSource(4))
	for range 20000 {
		l, k := some(r), some(r)
		name := []string{"a", "b", "q", "", "1"}[r.Intn(5)]
		all := func() []any {
			m, e1 := labels.Make(l)
			v, e2 := labels.Get(l, name)
			w, e3 := labels.With(l, name, "x")
			s, e4 := labels.Text(l)
			n, e5 := labels.Sum(l)
			c, e6 := labels.Compare(l, k)
			return []any{labels.Check(l), m, e1, v, e2, w, e3, s, e4, n, e5, c, e6}
		}
		if a, b := all(), all(); !reflect.DeepEqual(a, b) {
			t.Fatalf("%q, and %q: %v, and then %v", l, name, a, b)
		}
	}
}

// P2: what is handed in is only read, the spare room behind it too.
func TestOnlyRead(t *testing.T) {
	for _, l := range [][]api.Label{of("a", "1", "c", "2", "e", "3", "z", "4", "y", "5"), of("c", "1", "a", "", "b", "2", "z", "4", "y", "5")} {
		kept := append([]api.Label{}, l...)
		part := l[:3]
		labels.Check(part)
		labels.Make(part)
		labels.Get(part, "c")
		for _, name := range []string{"a", "b", "c", "e", "f"} {
			labels.With(part, name, "")
			labels.With(part, name, "new")
		}
		labels.Text(part)
		labels.Sum(part)
		labels.Compare(part, l[1:4])
		if !reflect.DeepEqual(l, kept) {
			t.Errorf("%q became %q", kept, l)
		}
	}
}

// lies: is a text a piece of another one?
func lies(s, in string) bool {
	at, from := uintptr(unsafe.Pointer(unsafe.StringData(s))), uintptr(unsafe.Pointer(unsafe.StringData(in)))
	return at >= from && at < from+uintptr(len(in))
}

// P2: an answer is new memory, the caller's.
func TestNew(t *testing.T) {
	l := of("aa", "xx", "bb", "yy")
	made, _ := labels.Make(l)
	with, _ := labels.With(l, "cc", "zz")
	without, _ := labels.With(l, "cc", "")
	for _, m := range [][]api.Label{made, with, without} {
		for i := range 2 {
			if lies(m[i].Name, l[i].Name) || lies(m[i].Value, l[i].Value) {
				t.Errorf("a text of %q is not new", m[i])
			}
		}
		m[0].Value, m[1].Name = "other", "other"
		if again := append(m[:1], of("d", "d", "d", "d")...); len(again) != 3 || !same(l, of("aa", "xx", "bb", "yy")) {
			t.Fatalf("an answer shares memory with what was handed in: %q", l)
		}
	}
	if v, _ := labels.Get(l, "bb"); v != "yy" || lies(v, l[1].Value) {
		t.Errorf("%q is not new", v)
	}
}
