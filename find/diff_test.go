package find_test

import (
	"strconv"
	"strings"
	"testing"

	"gleaner/api"
	"gleaner/find"
)

func list(l ...api.Target) []api.Target { return l }

// many targets, all others.
func many(n int) []api.Target {
	var l []api.Target
	for i := range n {
		l = append(l, of("a", strconv.Itoa(1000+i)))
	}
	return l
}

// differ: this must be gone, stay and have come.
func differ(t *testing.T, old, now, gone, stay, came []api.Target) {
	t.Helper()
	g, s, c, e := find.Diff(old, now)
	if !same(g, gone) || !same(s, stay) || !same(c, came) || e != api.OK {
		t.Errorf("%v, now %v: it is %v %v %v %d", old, now, g, s, c, e)
	}
}

// fails: this must be the error, and nothing else comes (P1).
func fails(t *testing.T, old, now []api.Target, want api.Errno) {
	t.Helper()
	g, s, c, e := find.Diff(old, now)
	if len(g)+len(s)+len(c) != 0 || e != want {
		t.Errorf("%.100v, now %.100v: it is %v %v %v %d, not %d", old, now, g, s, c, e, want)
	}
}

// G2: each list rises, as Compare has it.
func TestDiff(t *testing.T) {
	a, b, c, d := of("a", "1"), of("a", "1", "z", "0"), of("b", "2"), of("c", "3")
	name, none := of("__name__", "{}"), of()
	differ(t, nil, nil, nil, nil, nil)
	differ(t, list(), list(), nil, nil, nil)
	differ(t, list(a), nil, list(a), nil, nil)
	differ(t, nil, list(a), nil, nil, list(a))
	differ(t, list(a), list(a), nil, list(a), nil)
	differ(t, list(a), list(b), list(a), nil, list(b))
	differ(t, list(b), list(a), list(b), nil, list(a))
	differ(t, list(d, c, b, a), nil, list(a, b, c, d), nil, nil)
	differ(t, nil, list(c, b, d, a), nil, nil, list(a, b, c, d))
	differ(t, list(c, b, d, a), list(b, a, d, c), nil, list(a, b, c, d), nil)
	differ(t, list(d, b, a), list(c, a, d), list(b), list(a, d), list(c))
	differ(t, list(d, a), list(c, b), list(a, d), nil, list(b, c))
	differ(t, list(c, b), list(d, a), list(b, c), nil, list(a, d))
	differ(t, list(of("a", "10"), of("a", "9"), of("B", "1")), nil, list(of("B", "1"), of("a", "10"), of("a", "9")), nil, nil)
	// Those without labels are targets here, and no others have the same labels, whatever their text is.
	differ(t, list(a, none), list(none, c), list(a), list(none), list(c))
	differ(t, list(name, none), list(name), list(none), list(name), nil)
	differ(t, list(none), list(name), list(none), nil, list(name))
	differ(t, list(none, name), list(name, none), nil, list(none, name), nil)
	differ(t, list(api.Target{Labels: []api.Label{}}), list(none), nil, list(none), nil)
	differ(t, many(100), many(100), nil, many(100), nil)
	differ(t, many(100), nil, many(100), nil, nil)
	differ(t, many(99), many(100), nil, many(99), many(100)[99:])
}

// G2: errors, in their order.
func TestDiffErrors(t *testing.T) {
	a, b := of("a", "1"), of("b", "2")
	form, long, twice, falls := of("1", "x"), of("a", strings.Repeat("v", 101)), of("a", "1", "a", "2"), of("b", "1", "a", "2")
	fails(t, many(101), nil, api.ErrMany)
	fails(t, nil, many(101), api.ErrMany)
	fails(t, list(form), make([]api.Target, 101), api.ErrMany)
	fails(t, make([]api.Target, 101), list(form), api.ErrMany)
	fails(t, make([]api.Target, 100000), make([]api.Target, 100000), api.ErrMany)
	for bad, e := range map[*api.Target]api.Errno{&form: api.ErrForm, &long: api.ErrMany, &twice: api.ErrTwice, &falls: api.ErrState, {Labels: make([]api.Label, 21)}: api.ErrMany, {Labels: make([]api.Label, 1)}: api.ErrForm} {
		fails(t, list(*bad), nil, e)
		fails(t, nil, list(*bad), e)
		fails(t, list(a, *bad), list(a), e)
		fails(t, list(a), list(b, a, *bad), e)
		fails(t, list(a, a, *bad), nil, e)
		fails(t, list(a, a), list(*bad), e)
		fails(t, list(*bad, *bad), list(b, b), e)
	}
	fails(t, list(a, falls, form), nil, api.ErrState)
	fails(t, list(a, form, falls), nil, api.ErrForm)
	fails(t, list(falls), list(form), api.ErrState)
	fails(t, list(form), list(falls), api.ErrForm)
	fails(t, nil, list(long, form), api.ErrMany)
	fails(t, list(a, a), nil, api.ErrTwice)
	fails(t, nil, list(a, a), api.ErrTwice)
	fails(t, list(a, b, a), list(b), api.ErrTwice)
	fails(t, list(a), list(b, a, b), api.ErrTwice)
	fails(t, list(of(), of()), nil, api.ErrTwice)
	fails(t, nil, make([]api.Target, 2), api.ErrTwice)
	fails(t, append(many(99), of("a", "1000")), nil, api.ErrTwice)
}
