package labels_test

import (
	"strings"
	"testing"

	"gleaner/api"
	"gleaner/labels"
)

// same labels: an empty list may be nil or not.
func same(a, b []api.Label) bool {
	if len(a) != len(b) {
		return false
	}
	for i := range a {
		if a[i] != b[i] {
			return false
		}
	}
	return true
}

// backwards: labels, the last one first.
func backwards(l []api.Label) []api.Label {
	var m []api.Label
	for i := len(l) - 1; i >= 0; i-- {
		m = append(m, l[i])
	}
	return m
}

// C1: Make.
func TestMake(t *testing.T) {
	long := strings.Repeat("v", 101)
	empty := func(l []api.Label, at int) []api.Label {
		l[at].Value = ""
		return l
	}
	for _, c := range []struct {
		what    string
		l, want []api.Label
		e       api.Errno
	}{
		{"none", nil, nil, api.OK},
		{"one", of("a", "x"), of("a", "x"), api.OK},
		{"in order", of("a", "x", "b", "y"), of("a", "x", "b", "y"), api.OK},
		{"in another order", of("b", "1", "a", "2", "_", "3", "B", "4", "a0", "5"), of("B", "4", "_", "3", "a", "2", "a0", "5", "b", "1"), api.OK},
		{"as many as may be", backwards(many(20)), many(20), api.OK},
		{"an empty value", of("a", ""), nil, api.OK},
		{"empty values among others", of("c", "", "b", "y", "a", "", "_", "x"), of("_", "x", "b", "y"), api.OK},
		{"the longest value", of("a", long[1:]), of("a", long[1:]), api.OK},
		{"too many", many(21), nil, api.ErrMany},
		{"too many with those left out", empty(many(21), 7), nil, api.ErrMany},
		{"too many, and no name", append(of("", ""), many(20)...), nil, api.ErrMany},
		{"no name", of("a", "x", "1", "y"), nil, api.ErrForm},
		{"no name, and an empty value", of("1", ""), nil, api.ErrForm},
		{"too long a value", of("b", "x", "a", long), nil, api.ErrMany},
		{"no name, and too long a value", of("", long), nil, api.ErrForm},
		{"too long a value ahead of no name", of("a", long, "", ""), nil, api.ErrMany},
		{"one name twice", of("a", "x", "b", "y", "a", "z"), nil, api.ErrTwice},
		{"one name twice, once left out", of("a", "x", "a", ""), nil, api.ErrTwice},
		{"one name twice, both left out", of("a", "", "a", ""), nil, api.ErrTwice},
		{"one name twice ahead of no name", of("a", "x", "a", "x", "", "x"), nil, api.ErrForm},
	} {
		m, e := labels.Make(c.l)
		if !same(m, c.want) || e != c.e {
			t.Errorf("%s: it is %v %d, not %v %d", c.what, m, e, c.want, c.e)
		}
		if f := labels.Check(m); f != api.OK {
			t.Errorf("%s: what Make made is not right: %d", c.what, f)
		}
	}
}

// C2: Get.
func TestGet(t *testing.T) {
	l := of("__name__", "up", "a", "x", "job", strings.Repeat("v", 100))
	for _, c := range []struct {
		name, want string
		e          api.Errno
	}{
		{"__name__", "up", api.OK},
		{"a", "x", api.OK},
		{"job", strings.Repeat("v", 100), api.OK},
		{"b", "", api.OK},
		{"A", "", api.OK},
		{"jo", "", api.OK},
		{"jobs", "", api.OK},
		{strings.Repeat("n", 40), "", api.OK},
		{strings.Repeat("n", 41), "", api.ErrForm},
		{"", "", api.ErrForm},
		{"1", "", api.ErrForm},
		{"a-", "", api.ErrForm},
	} {
		if v, e := labels.Get(l, c.name); v != c.want || e != c.e {
			t.Errorf("Get of %q is %q %d", c.name, v, e)
		}
		if v, e := labels.Get(nil, c.name); v != "" || e != c.e {
			t.Errorf("Get of %q of none is %q %d", c.name, v, e)
		}
	}
}

// C2: With.
func TestWith(t *testing.T) {
	long := strings.Repeat("v", 101)
	full := many(20)
	changed := many(20)
	changed[4].Value = "new"
	for _, c := range []struct {
		what        string
		l           []api.Label
		name, value string
		want        []api.Label
		e           api.Errno
	}{
		{"the first one", nil, "a", "x", of("a", "x"), api.OK},
		{"none of none", nil, "a", "", nil, api.OK},
		{"ahead of all", of("b", "x"), "a", "y", of("a", "y", "b", "x"), api.OK},
		{"behind all", of("b", "x"), "c", "y", of("b", "x", "c", "y"), api.OK},
		{"between", of("a", "x", "c", "y"), "b", "z", of("a", "x", "b", "z", "c", "y"), api.OK},
		{"byte by byte", of("B", "x", "a", "y"), "_", "z", of("B", "x", "_", "z", "a", "y"), api.OK},
		{"another value", of("a", "x", "b", "y", "c", "z"), "b", "new", of("a", "x", "b", "new", "c", "z"), api.OK},
		{"the same value", of("a", "x"), "a", "x", of("a", "x"), api.OK},
		{"taken away", of("a", "x", "b", "y", "c", "z"), "b", "", of("a", "x", "c", "z"), api.OK},
		{"the last one taken away", of("a", "x"), "a", "", nil, api.OK},
		{"not there anyway", of("a", "x"), "b", "", of("a", "x"), api.OK},
		{"the longest value", nil, "a", long[1:], of("a", long[1:]), api.OK},
		{"the longest name", nil, long[:40], "x", of(long[:40], "x"), api.OK},
		{"as many as may be", full[:19], full[19].Name, "v", full, api.OK},
		{"another value of as many as may be", full, full[4].Name, "new", changed, api.OK},
		{"taken away of as many as may be", full, full[19].Name, "", full[:19], api.OK},
		{"not there anyway, of as many as may be", full, "other", "", full, api.OK},
		{"one too many", full, "other", "x", nil, api.ErrMany},
		{"too long a value", of("a", "x"), "a", long, nil, api.ErrMany},
		{"no name", of("a", "x"), "", "x", nil, api.ErrForm},
		{"no name to be taken away", of("a", "x"), "1", "", nil, api.ErrForm},
		{"too long a name", nil, long[:41], "x", nil, api.ErrForm},
		{"no name, and too long a value", nil, "1", long, nil, api.ErrForm},
		{"no name, and too many", full, "1", "x", nil, api.ErrForm},
	} {
		m, e := labels.With(c.l, c.name, c.value)
		if !same(m, c.want) || e != c.e {
			t.Errorf("%s: it is %v %d, not %v %d", c.what, m, e, c.want, c.e)
		}
	}
}
