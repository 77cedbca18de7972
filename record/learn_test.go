package record_test

import (
	"testing"

	"gleaner/api"
	"gleaner/record"
)

// learns: what is known behind a record must be this.
func learns(t *testing.T, k api.Known, r api.Record, want api.Known) {
	t.Helper()
	if m, e := record.Learn(k, r); !sameKnown(m, want) || e != api.OK {
		t.Errorf("%v behind %v: it is %v %d, not %v", r, k, m, e, want)
	}
	// I6: who learns the same twice knows the same.
	if m, e := record.Learn(want, r); !sameKnown(m, want) || e != api.OK {
		t.Errorf("%v behind %v, which it was learnt into: it is %v %d", r, want, m, e)
	}
}

// refuses: this must be the error.
func refuses(t *testing.T, k api.Known, r api.Record, want api.Errno) {
	t.Helper()
	if m, e := record.Learn(k, r); !sameKnown(m, api.Known{}) || e != want {
		t.Errorf("%v behind %v: it is %v %d, not %d", r, k, m, e, want)
	}
}

var (
	a, b, c = ref(1, "a", "x"), ref(2, "b", "x"), ref(300, "__name__", "c")
	ab      = knows(a, b)
)

// I4: series.
func TestLearnSeries(t *testing.T) {
	learns(t, api.Known{}, series(), api.Known{})
	learns(t, ab, series(), ab)
	learns(t, api.Known{}, series(a), knows(a))
	learns(t, api.Known{}, series(a, b, c), knows(a, b, c))
	learns(t, api.Known{}, series(c, a, b), knows(a, b, c))
	learns(t, knows(b), series(c, a), knows(a, b, c))
	learns(t, ab, series(b), ab)
	learns(t, ab, series(b, c, a, c, c), knows(a, b, c))
	learns(t, api.Known{}, series(a, a), knows(a))
	learns(t, with(knows(a), c, -7), series(b, c, a), api.Known{Refs: []api.Ref{a, b, c}, Lasts: []int{0, 0, -7}, Has: []bool{false, false, true}})
	learns(t, with(api.Known{}, b, 5), series(a), api.Known{Refs: []api.Ref{a, b}, Lasts: []int{0, 5}, Has: []bool{false, true}})
	learns(t, api.Known{}, series(ref(1000000, "a", "x"), ref(1, "a", "y")), knows(ref(1, "a", "y"), ref(1000000, "a", "x")))
	learns(t, knows(ref(1, "__name__", "{}")), series(ref(2, "__name__", `a{b="c"}`), ref(3, "__name__", "a", "b", "c")), knows(ref(1, "__name__", "{}"), ref(2, "__name__", `a{b="c"}`), ref(3, "__name__", "a", "b", "c")))
}

// I4: a ref with other labels, and labels with another ref.
func TestLearnTwice(t *testing.T) {
	for _, x := range []api.Ref{ref(1, "a", "y"), ref(1, "b", "y"), ref(1, "a", "x", "b", "x"), ref(1, "b", "x"), ref(2, "a", "x"), ref(3, "a", "x"), ref(1000000, "b", "x")} {
		refuses(t, ab, series(x), api.ErrTwice)
		refuses(t, ab, series(c, b, x), api.ErrTwice)
		refuses(t, ab, series(x, c), api.ErrTwice)
		// The others may have come with it, ahead of it or behind it.
		refuses(t, api.Known{}, series(a, b, x), api.ErrTwice)
		refuses(t, api.Known{}, series(x, a, b), api.ErrTwice)
		refuses(t, knows(a), series(b, x), api.ErrTwice)
		refuses(t, knows(b), series(a, x, c), api.ErrTwice)
		refuses(t, knows(b), series(a, c, x), api.ErrTwice)
	}
	refuses(t, ab, series(ref(1, "b", "x"), ref(2, "a", "x")), api.ErrTwice)
}

// I4: samples.
func TestLearnSamples(t *testing.T) {
	timed := func(la, lb int) api.Known { return with(with(api.Known{}, a, la), b, lb) }
	learns(t, api.Known{}, samples(), api.Known{})
	learns(t, ab, samples(), ab)
	learns(t, ab, samples(point(1, 5, 1), point(2, -5, 1)), timed(5, -5))
	learns(t, ab, samples(point(2, 0, 1), point(1, 0, 1)), timed(0, 0))
	learns(t, ab, samples(point(1, -1, 1), point(2, -3, 1), point(2, -2, 0)), timed(-1, -2))
	learns(t, ab, samples(point(2, 7, 1)), api.Known{Refs: []api.Ref{a, b}, Lasts: []int{0, 7}, Has: []bool{false, true}})
	learns(t, timed(5, -5), samples(point(1, 4, 1), point(2, -6, 1)), timed(5, -5))
	learns(t, timed(5, -5), samples(point(1, 5, 9), point(2, -5, 9)), timed(5, -5))
	learns(t, timed(5, -5), samples(point(1, 6, 1), point(2, -4, 1)), timed(6, -4))
	learns(t, timed(5, -5), samples(point(1, 9, 1), point(1, 7, 1), point(2, -5, 1), point(1, 8, 1)), timed(9, -5))
	learns(t, timed(-9, 0), samples(point(1, -api.MaxTime, 1), point(2, api.MaxTime, 1)), timed(-9, api.MaxTime))
	learns(t, ab, samples(point(1, -api.MaxTime, 1), point(2, 1, 1)), timed(-api.MaxTime, 1))
}

// I4: samples of what is not known, wherever they stand.
func TestLearnNone(t *testing.T) {
	p := point(3, 1, 1)
	refuses(t, api.Known{}, samples(p), api.ErrNone)
	refuses(t, ab, samples(p), api.ErrNone)
	refuses(t, ab, samples(point(1, 5, 1), p, point(2, 5, 1)), api.ErrNone)
	refuses(t, ab, samples(point(300, 5, 1)), api.ErrNone)
	refuses(t, ab, samples(point(1000000, 5, 1)), api.ErrNone)
}

// I4: what is wrong with what is known comes first, then what is wrong with the record.
func TestLearnWrong(t *testing.T) {
	for _, x := range wrongKnown() {
		refuses(t, x.k, series(), x.want)
		refuses(t, x.k, samples(point(5, 1, 1)), x.want)
		for _, y := range wrong() {
			refuses(t, x.k, y.r, x.want)
		}
	}
	for _, y := range wrong() {
		refuses(t, api.Known{}, y.r, y.want)
		refuses(t, ab, y.r, y.want)
		if y.r.Kind == api.RecordSeries && len(y.r.Refs) > 0 && len(y.r.Refs) < 200 && len(y.r.Points) == 0 {
			refuses(t, ab, series(append([]api.Ref{ref(2, "a", "x")}, y.r.Refs...)...), y.want)
		}
		if y.r.Kind == api.RecordSamples && len(y.r.Points) > 0 && len(y.r.Points) < 200 && len(y.r.Refs) == 0 {
			refuses(t, ab, samples(append([]api.Point{point(3, 1, 1)}, y.r.Points...)...), y.want)
		}
	}
}

// I4: not more than 1000, which comes behind what is wrong with any ref.
func TestLearnMany(t *testing.T) {
	all := refs(1001)
	k := knows(all[:800]...)
	learns(t, k, series(all[800:1000]...), knows(all[:1000]...))
	learns(t, knows(all[:1000]...), series(all[500:700]...), knows(all[:1000]...))
	learns(t, knows(all[:1000]...), samples(point(1000, 0, 1)), with(knows(all[:999]...), all[999], 0))
	learns(t, knows(all[:999]...), series(all[999], all[999], all[0]), knows(all[:1000]...))
	refuses(t, knows(all[:1000]...), series(all[1000]), api.ErrMany)
	refuses(t, knows(all[:801]...), series(all[801:]...), api.ErrMany)
	refuses(t, knows(all[1:]...), series(all[0], all[1]), api.ErrMany)
	refuses(t, knows(all[:1000]...), series(all[1000], ref(5, "z", "z")), api.ErrTwice)
	refuses(t, knows(all[:1000]...), series(ref(5, "z", "z"), all[1000]), api.ErrTwice)
}
