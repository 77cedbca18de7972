package record_test

import (
	"strings"
	"testing"

	"gleaner/api"
	"gleaner/record"
)

// knows: what is known of some refs, none of which has a last time.
func knows(refs ...api.Ref) api.Known {
	return api.Known{Refs: refs, Lasts: make([]int, len(refs)), Has: make([]bool, len(refs))}
}

// with a last time, of one more ref.
func with(k api.Known, x api.Ref, last int) api.Known {
	return api.Known{Refs: append(k.Refs[:len(k.Refs):len(k.Refs)], x), Lasts: append(k.Lasts[:len(k.Lasts):len(k.Lasts)], last), Has: append(k.Has[:len(k.Has):len(k.Has)], true)}
}

// without a last time it is 0; but here it is told.
func untimed(x api.Ref, last int) api.Known {
	k := with(api.Known{}, x, last)
	k.Has[0] = false
	return k
}

func sameKnown(a, b api.Known) bool {
	return sameRefs(a.Refs, b.Refs) && sameLists(a.Lasts, b.Lasts) && sameLists(a.Has, b.Has)
}

// wrongKnown: what can't be known, and which error that is; of more than one the first.
func wrongKnown() []struct {
	what string
	k    api.Known
	want api.Errno
} {
	a, b, none := ref(1, "a", "x"), ref(2, "b", "x"), ref(0)
	late := with(api.Known{}, a, api.MaxTime+1)
	return []struct {
		what string
		k    api.Known
		want api.Errno
	}{
		{"fewer Lasts", api.Known{Refs: []api.Ref{a}, Has: make([]bool, 1)}, api.ErrForm},
		{"fewer Has", api.Known{Refs: []api.Ref{a}, Lasts: make([]int, 1)}, api.ErrForm},
		{"more Lasts", api.Known{Refs: []api.Ref{a}, Lasts: make([]int, 2), Has: make([]bool, 1)}, api.ErrForm},
		{"more Has", api.Known{Refs: []api.Ref{a}, Lasts: make([]int, 1), Has: make([]bool, 2)}, api.ErrForm},
		{"Lasts alone", api.Known{Lasts: make([]int, 1)}, api.ErrForm},
		{"Has alone", api.Known{Has: make([]bool, 1)}, api.ErrForm},
		{"fewer Refs", api.Known{Lasts: make([]int, 1), Has: make([]bool, 1)}, api.ErrForm},
		{"too many Refs, and fewer Has", api.Known{Refs: refs(1001), Lasts: make([]int, 1001), Has: make([]bool, 1000)}, api.ErrForm},
		{"too many", knows(refs(1001)...), api.ErrMany},
		{"too many that are none", knows(make([]api.Ref, 1001)...), api.ErrMany},
		{"ref 0", knows(ref(0, "a", "x")), api.ErrRange},
		{"a ref below 0", knows(ref(-1, "a", "x")), api.ErrRange},
		{"too great a ref", knows(a, ref(1000001, "b", "x")), api.ErrRange},
		{"ref 0 without labels", knows(none), api.ErrRange},
		{"no labels", knows(ref(1)), api.ErrForm},
		{"no labels, and too late a time", with(api.Known{}, ref(1), api.MaxTime+1), api.ErrForm},
		{"a name that is none", knows(ref(1, "1", "x")), api.ErrForm},
		{"an empty value", knows(ref(1, "a", "")), api.ErrForm},
		{"too long a value", knows(ref(1, "a", strings.Repeat("v", 101))), api.ErrMany},
		{"too many labels", knows(api.Ref{Ref: 1, Labels: many(21, "v")}), api.ErrMany},
		{"a name twice", knows(ref(1, "a", "x", "a", "x")), api.ErrTwice},
		{"names that do not rise", knows(ref(1, "b", "x", "a", "x")), api.ErrState},
		{"names that do not rise, and too late a time", with(api.Known{}, ref(1, "b", "x", "a", "x"), api.MaxTime+1), api.ErrState},
		{"too late a time", late, api.ErrRange},
		{"too early a time", with(api.Known{}, a, -api.MaxTime-1), api.ErrRange},
		{"the earliest time of all", with(knows(a), b, -1<<63), api.ErrRange},
		{"too late a time where there is none", untimed(a, api.MaxTime+1), api.ErrRange},
		{"a time where there is none", untimed(a, 1), api.ErrForm},
		{"a time below 0 where there is none", untimed(a, -1), api.ErrForm},
		{"a time where there is none, and refs that fall", api.Known{Refs: []api.Ref{b, a}, Lasts: []int{0, 1}, Has: []bool{false, false}}, api.ErrForm},
		{"too late a time, and then ref 0", with(late, none, 0), api.ErrRange},
		{"no labels, and then too great a ref", knows(ref(1), ref(1000001, "a", "x")), api.ErrForm},
		{"refs that fall", knows(b, a), api.ErrState},
		{"refs that fall later", knows(a, ref(3, "c", "x"), b), api.ErrState},
		{"refs that stay", knows(a, ref(1, "b", "x")), api.ErrState},
		{"refs that stay, with their labels", knows(a, a), api.ErrState},
		{"refs that fall, and then one without labels", knows(b, a, ref(3)), api.ErrState},
		{"one without labels, where refs fall", knows(b, ref(1)), api.ErrForm},
		{"labels twice, and then refs that fall", knows(a, ref(3, "a", "x"), b), api.ErrState},
		{"labels twice", knows(a, ref(2, "a", "x")), api.ErrTwice},
		{"labels twice, not side by side", knows(a, b, ref(3, "a", "x")), api.ErrTwice},
		{"the labels of 1000 refs and of the first one", knows(append(refs(999), ref(1000, "a", number(0)))...), api.ErrTwice},
	}
}

// I3: what can't be known.
func TestCheckWrong(t *testing.T) {
	for _, c := range wrongKnown() {
		if e := record.Check(c.k); e != c.want {
			t.Errorf("%s: it is %d, not %d", c.what, e, c.want)
		}
	}
}

// I3: what can be known, up to the bounds.
func TestCheckRight(t *testing.T) {
	for _, k := range []api.Known{
		{},
		{Refs: []api.Ref{}, Lasts: []int{}, Has: []bool{}},
		knows(ref(1, "a", "x")),
		knows(ref(1000000, "a", "x")),
		knows(ref(7, "a", "x"), ref(1000000, "a", "y")),
		knows(ref(1, "a", "x"), ref(2, "b", "x"), ref(3, "a", "x", "b", "x"), ref(4, "a", "x b"), ref(5, "__name__", "a")),
		knows(refs(1000)...),
		knows(api.Ref{Ref: 1, Labels: many(20, strings.Repeat("v", 100))}),
		with(knows(), ref(1, "a", "x"), 0),
		with(with(knows(ref(1, "a", "x")), ref(2, "b", "x"), api.MaxTime), ref(3, "c", "x"), -api.MaxTime),
		// Labels that are others, though their texts look alike.
		knows(ref(1, "__name__", "{}"), ref(2, "__name__", `up{job="x"}`), ref(3, "__name__", "up", "job", "x"), ref(4, "job", `x",k="y`), ref(5, "job", "x", "k", "y")),
	} {
		if e := record.Check(k); e != api.OK {
			t.Errorf("%v: it is %d", k, e)
		}
	}
}
