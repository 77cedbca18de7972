package take_test

import (
	"strconv"
	"strings"
	"testing"

	"gleaner/api"
	"gleaner/press"
	"gleaner/take"
	"gleaner/wire"
)

// sent: what is sent of some series.
func sent(t *testing.T, l ...api.Series) string {
	t.Helper()
	long, e := wire.Write(l)
	short, f := press.Pack(long)
	if e != api.OK || f != api.OK {
		t.Fatalf("%.200v: it is %d %d", l, e, f)
	}
	return short
}

// packed bytes, whatever they are.
func packed(t *testing.T, long string) string {
	t.Helper()
	short, e := press.Pack(long)
	if e != api.OK {
		t.Fatal(e)
	}
	return short
}

// field of bytes, whose head is one byte.
func field(head byte, s string) string {
	return string([]byte{head}) + wire.Number(uint64(len(s))) + s
}

// takes: what must come of a text.
func takes(t *testing.T, l []api.Series, s string, answer int, want ...api.Series) []api.Series {
	t.Helper()
	m, n, e := take.Take(l, s)
	if !same(m, want) || n != answer || e != api.OK {
		t.Errorf("%.200v, then %.100x: it is %.200v %d %d, not %.200v %d", l, s, m, n, e, want, answer)
	}
	return m
}

// refusesTake: this must be the error, and neither a store nor an answer comes (P1).
func refusesTake(t *testing.T, l []api.Series, s string, want api.Errno) {
	t.Helper()
	if m, n, e := take.Take(l, s); len(m) != 0 || n != 0 || e != want {
		t.Errorf("%.200v, then %.100x: it is %.200v %d %d, not %d", l, s, m, n, e, want)
	}
}

// refusesGet: this must be the error, and no samples come (P1).
func refusesGet(t *testing.T, l []api.Series, x []api.Label, want api.Errno) {
	t.Helper()
	if m, e := take.Get(l, x); len(m) != 0 || e != want {
		t.Errorf("%v of %.200v: it is %v %d, not %d", x, l, m, e, want)
	}
}

// L2: series by series, sample by sample.
func TestTake(t *testing.T) {
	a, b, c := of("a", "x"), of("b", "x"), of("c", "x")
	takes(t, nil, sent(t), api.AnswerOK)
	takes(t, store(), sent(t), api.AnswerOK)
	takes(t, nil, sent(t, series(a, 5)), api.AnswerOK, series(a, 5))
	takes(t, nil, sent(t, series(a, -5, 0, 5)), api.AnswerOK, series(a, -5, 0, 5))
	takes(t, nil, sent(t, series(a, 5, 4, 6, 6, 3, 9, -1, 10)), api.AnswerOK, series(a, 5, 6, 9, 10))
	takes(t, nil, sent(t, series(a, -api.MaxTime, api.MaxTime)), api.AnswerOK, series(a, -api.MaxTime, api.MaxTime))
	takes(t, nil, sent(t, series(a, api.MaxTime, -api.MaxTime)), api.AnswerOK, series(a, api.MaxTime))
	takes(t, nil, sent(t, series(c, 3), series(a, 1), series(b, 2)), api.AnswerOK, series(a, 1), series(b, 2), series(c, 3))
	takes(t, nil, sent(t, series(b, 1, 2), series(a, 1), series(b, 2, 3), series(a, 1, 7), series(b, 0)), api.AnswerOK, series(a, 1, 7), series(b, 1, 2, 3))
	takes(t, nil, sent(t, series(b), series(a)), api.AnswerOK)
	takes(t, nil, sent(t, series(b), series(a, 1), series(c)), api.AnswerOK, series(a, 1))

	l := store(series(a, 1, 5), series(c, 7))
	takes(t, l, sent(t), api.AnswerOK, l...)
	takes(t, l, sent(t, series(b)), api.AnswerOK, l...)
	takes(t, l, sent(t, series(a), series(c)), api.AnswerOK, l...)
	takes(t, l, sent(t, series(a, 1, 2, 3, 4, 5), series(c, 7)), api.AnswerOK, l...)
	takes(t, l, sent(t, series(a, 6), series(c, 6)), api.AnswerOK, series(a, 1, 5, 6), series(c, 7))
	takes(t, l, sent(t, series(c, 8), series(b, -3)), api.AnswerOK, series(a, 1, 5), series(b, -3), series(c, 7, 8))
	takes(t, l, sent(t, series(of("d", "x"), 9), series(of("A", "x"), 9)), api.AnswerOK, series(of("A", "x"), 9), series(a, 1, 5), series(c, 7), series(of("d", "x"), 9))
	takes(t, l, sent(t, series(of("a", "x", "b", "y"), 9), series(of("a", "w"), 9)), api.AnswerOK, series(of("a", "w"), 9), series(a, 1, 5), series(of("a", "x", "b", "y"), 9), series(c, 7))
	takes(t, store(series(nil, 5), series(a, 1)), sent(t, series(a, 2)), api.AnswerOK, series(nil, 5), series(a, 1, 2))

	// What is at the same time, or ahead, changes nothing, whatever its bits are.
	other := api.Series{Labels: a, Samples: []api.Sample{{Time: 5, Bits: 77}, {Time: 1, Bits: 78}, {Time: 6, Bits: api.BitsStale}}}
	takes(t, l, sent(t, other), api.AnswerOK, api.Series{Labels: a, Samples: append(at(1, 5), api.Sample{Time: 6, Bits: api.BitsStale})}, series(c, 7))
}

// L2: labels that have one text are not the same, for they are not compared by it.
func TestTakeOwnName(t *testing.T) {
	name := of("__name__", "{}")
	l := store(series(nil, 5))
	l = takes(t, l, sent(t, series(name, 1)), api.AnswerOK, series(nil, 5), series(name, 1))
	takes(t, l, sent(t, series(name, 1, 9)), api.AnswerOK, series(nil, 5), series(name, 1, 9))
	takes(t, nil, sent(t, series(of("__name__", "a", "b", "c"), 1), series(of("__name__", `a{b="c"}`), 2)), api.AnswerOK, series(of("__name__", "a", "b", "c"), 1), series(of("__name__", `a{b="c"}`), 2))
}

// L2: texts that are not what may be sent: the store stays as it is.
func TestTakeBad(t *testing.T) {
	good := series(of("a", "x"), 100)
	named := field(0x0a, field(0x0a, "a")+field(0x12, "x"))
	bad := map[string]string{
		"nothing":                       "",
		"how many is wrong":             "\x80",
		"bytes are not there":           "\x05\x00a",
		"bytes are too many":            "\x00\x00a",
		"longer than a text may be":     wire.Number(20001) + "\x00a",
		"a field that ends too early":   packed(t, "\x0a"),
		"a field with number 0":         packed(t, "\x00\x01"),
		"too late a time":               packed(t, field(0x0a, named+field(0x12, "\x10"+wire.Number(1<<53)))),
		"more than MaxSeries":           packed(t, strings.Repeat(field(0x0a, named), 201)),
		"more than MaxSamples":          packed(t, field(0x0a, named+strings.Repeat("\x12\x00", 201))),
		"more than MaxLabels":           packed(t, field(0x0a, strings.Repeat(named, 21))),
		"no labels":                     sent(t, series(nil, 2)),
		"neither labels nor samples":    sent(t, series(nil)),
		"no labels behind a good one":   sent(t, good, series(nil, 2)),
		"no labels ahead of a good one": sent(t, series(nil), good),
	}
	for _, x := range wrongLabels {
		if len(x.l) > 20 {
			continue
		}
		for i, l := range [][]api.Series{{series(x.l, 2)}, {series(x.l)}, {good, series(x.l, 101)}, {series(x.l, 3), good}, {good, series(x.l), good}} {
			bad["labels that are "+strconv.Itoa(int(x.want))+" of kind "+strconv.Itoa(i)] = sent(t, l...)
		}
	}
	full := rising(500)
	full[0] = series(of("a", "x"), till(5000)...)
	for what, s := range bad {
		for _, l := range [][]api.Series{nil, store(series(nil, 5), series(of("a", "x"), 1, 2)), full} {
			if m, n, e := take.Take(l, s); !same(m, l) || n != api.AnswerBad || e != api.OK {
				t.Errorf("%s: %.100v, then %x: it is %.100v %d %d", what, l, s, m, n, e)
			}
		}
	}
}

// L2: the longest text there is, and as many series as may be.
func TestTakeMuch(t *testing.T) {
	var l []api.Series
	for i := range 200 {
		l = append(l, series(of("a", strconv.Itoa(1000+i)), 1, 2))
	}
	takes(t, nil, sent(t, l...), api.AnswerOK, l...)
	named := field(0x0a, field(0x0a, "a")+field(0x12, "x"))
	long := strings.Repeat(field(0x0a, named+strings.Repeat("\x12\x00", 196)), 49)
	long += field(0x1a, strings.Repeat("x", 250)) // passed over
	if len(long) != api.MaxText {
		t.Fatalf("it has %d bytes", len(long))
	}
	takes(t, nil, packed(t, long), api.AnswerOK, series(of("a", "x"), 0))
}

// L2: ErrMany, if there would be too much, and only then.
func TestTakeMany(t *testing.T) {
	more := func(n int) api.Series { return series(of("z", strconv.Itoa(1000+n)), 5) }
	takes(t, rising(499), sent(t, more(1)), api.AnswerOK, append(rising(499), more(1))...)
	refusesTake(t, rising(499), sent(t, more(1), more(2)), api.ErrMany)
	refusesTake(t, rising(500), sent(t, more(1)), api.ErrMany)
	takes(t, rising(500), sent(t, rising(3)...), api.AnswerOK, rising(500)...)
	takes(t, rising(500), sent(t, series(of("z", "x"))), api.AnswerOK, rising(500)...)
	takes(t, rising(500), sent(t, more(1), series(nil, 1)), api.AnswerBad, rising(500)...)
	refusesTake(t, rising(499), sent(t, more(1), more(2), series(of("z", "x"))), api.ErrMany)

	a := of("a", "x")
	full := till(5000)
	takes(t, store(series(a, full[:4999]...)), sent(t, series(a, 4998, 4999)), api.AnswerOK, series(a, full...))
	refusesTake(t, store(series(a, full[:4999]...)), sent(t, series(a, 4999, 5000)), api.ErrMany)
	takes(t, store(series(a, full...)), sent(t, series(a, 4999, 7)), api.AnswerOK, series(a, full...))
	refusesTake(t, store(series(a, full...)), sent(t, series(a, 5000)), api.ErrMany)
	refusesTake(t, append(store(series(a, full...)), rising(499)...), sent(t, more(1), series(a, 9000)), api.ErrMany)
}

// L3: the samples of a series.
func TestGet(t *testing.T) {
	l := store(series(of("a", "w"), 3), series(of("a", "x"), 1, 2), series(of("a", "x", "b", "y"), 5), series(of("b", "x"), -7, 7))
	has := func(l []api.Series, x []api.Label, times ...int) {
		t.Helper()
		if m, e := take.Get(l, x); !same(store(api.Series{Samples: m}), store(series(nil, times...))) || e != api.OK {
			t.Errorf("%v of %.200v: it is %v %d, not %v", x, l, m, e, times)
		}
	}
	for _, s := range l {
		var times []int
		for _, p := range s.Samples {
			times = append(times, p.Time)
		}
		has(l, s.Labels, times...)
		has(store(s), s.Labels, times...)
	}
	for i, s := range rising(500) {
		has(rising(500), s.Labels, 5)
		refusesGet(t, append(rising(i), rising(500)[i+1:]...), s.Labels, api.ErrNone)
	}
	has(store(series(nil, 4), series(of("__name__", "{}"), 6)), nil, 4)
	has(store(series(nil, 4), series(of("__name__", "{}"), 6)), of("__name__", "{}"), 6)
	has(store(series(of("a", "x"), till(5000)...)), of("a", "x"), till(5000)...)
	for _, x := range [][]api.Label{nil, {}, of("A", "x"), of("a", "v"), of("a", "xx"), of("a", "x", "b", "x"), of("a", "x", "b", "y", "c", "z"), of("b", "w"), of("b", "y"), of("c", "x")} {
		refusesGet(t, l, x, api.ErrNone)
		refusesGet(t, nil, x, api.ErrNone)
	}
	for _, x := range wrongLabels {
		refusesGet(t, l, x.l, x.want)
		refusesGet(t, nil, x.l, x.want)
	}
}
