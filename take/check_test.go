package take_test

import (
	"slices"
	"strconv"
	"strings"
	"testing"

	"gleaner/api"
	"gleaner/take"
)

// of some names and values, one behind the other.
func of(namesAndValues ...string) []api.Label {
	var l []api.Label
	for i := 0; i < len(namesAndValues); i += 2 {
		l = append(l, api.Label{Name: namesAndValues[i], Value: namesAndValues[i+1]})
	}
	return l
}

// many labels, whose names are na to nt.
func many(n int, value string) []api.Label {
	var l []api.Label
	for i := range n {
		l = append(l, api.Label{Name: "n" + string(rune('a'+i)), Value: value})
	}
	return l
}

// at some times: samples whose bits are these times.
func at(times ...int) []api.Sample {
	var l []api.Sample
	for _, n := range times {
		l = append(l, api.Sample{Time: n, Bits: uint64(n)})
	}
	return l
}

// series of labels, with samples at some times.
func series(l []api.Label, times ...int) api.Series {
	return api.Series{Labels: l, Samples: at(times...)}
}

func store(l ...api.Series) []api.Series { return l }

// till: as many times, which rise.
func till(n int) []int {
	var l []int
	for i := range n {
		l = append(l, i)
	}
	return l
}

// rising: as many series, which rise, with a sample at 5 each.
func rising(n int) []api.Series {
	var l []api.Series
	for i := range n {
		l = append(l, series(of("m", strconv.Itoa(1000+i)), 5))
	}
	return l
}

// same: an empty list may be nil or not.
func same(a, b []api.Series) bool {
	return slices.EqualFunc(a, b, func(x, y api.Series) bool {
		return slices.Equal(x.Labels, y.Labels) && slices.Equal(x.Samples, y.Samples)
	})
}

// wrongLabels, and which error they are.
var wrongLabels = []struct {
	l    []api.Label
	want api.Errno
}{
	{of("1", "x"), api.ErrForm},
	{of("a", ""), api.ErrForm},
	{of("a", strings.Repeat("v", 101)), api.ErrMany},
	{many(21, "v"), api.ErrMany},
	{of("a", "x", "a", "y"), api.ErrTwice},
	{of("b", "x", "a", "x"), api.ErrState},
}

// wrong: a store, and which error it is; of more than one the first.
type wrong struct {
	what string
	l    []api.Series
	want api.Errno
}

func wrongStores() []wrong {
	a, b, bad := series(of("a", "x"), 1, 2), series(of("b", "x"), 5), series(of("1", "x"), 1)
	full := series(of("a", "x"), till(5001)...)
	l := []wrong{
		{"one too many", rising(501), api.ErrMany},
		{"too many of nothing", make([]api.Series, 501), api.ErrMany},
		{"far too many", make([]api.Series, 30000), api.ErrMany},
		{"too many, and not right", append(store(bad), rising(500)...), api.ErrMany},
		{"too many samples", store(full), api.ErrMany},
		{"too many samples of nothing", store(api.Series{Samples: make([]api.Sample, 5001)}), api.ErrMany},
		{"too many samples at the end", store(bad, series(of("a", "x")), b, a, full), api.ErrMany},
		{"too many samples of one that is not right", store(a, series(of("1", "x"), till(5001)...)), api.ErrMany},
		{"no samples", store(series(of("a", "x"))), api.ErrRange},
		{"an empty list of samples", store(a, api.Series{Labels: of("b", "x"), Samples: []api.Sample{}}), api.ErrRange},
		{"neither labels nor samples", make([]api.Series, 1), api.ErrRange},
		{"too late a time", store(series(of("a", "x"), api.MaxTime+1)), api.ErrRange},
		{"too early a time", store(a, series(of("b", "x"), -api.MaxTime-1, 5)), api.ErrRange},
		{"a time far too late", store(a, series(of("b", "x"), 5, 1<<63-1)), api.ErrRange},
		{"a time far too early", store(a, series(of("b", "x"), -1<<63)), api.ErrRange},
		{"times fall, and one is too late", store(series(of("a", "x"), 2, 1, api.MaxTime+1)), api.ErrRange},
		{"times fall", store(series(of("a", "x"), 2, 1)), api.ErrState},
		{"times stay", store(a, series(of("b", "x"), 1, 2, 2, 3)), api.ErrState},
		{"the 5000th time is the 4999th", store(series(of("a", "x"), append(till(4999), 4998)...)), api.ErrState},
		{"times fall ahead of a wrong series", store(series(of("a", "x"), 2, 1), bad), api.ErrState},
		{"times fall behind a wrong series", store(bad, series(of("a", "x"), 2, 1)), api.ErrForm},
		{"times fall behind one without samples", store(series(of("a", "x")), series(of("b", "x"), 2, 1)), api.ErrRange},
		{"series fall", store(b, a), api.ErrState},
		{"series stay", store(a, series(of("a", "x"), 9)), api.ErrState},
		{"series stay at the end", append(rising(499), rising(499)[498]), api.ErrState},
		{"series without labels stay", store(series(nil, 1), series(nil, 2)), api.ErrState},
		{"one without labels behind another one", store(a, series(nil, 1)), api.ErrState},
		{"a longer one ahead of its beginning", store(series(of("a", "x", "b", "y"), 1), a), api.ErrState},
		{"series fall, and the last one is not right", store(b, a, bad), api.ErrForm},
		{"series fall, and the last one has no samples", store(b, a, series(of("c", "x"))), api.ErrRange},
	}
	for _, x := range wrongLabels {
		l = append(l,
			wrong{"a wrong series", store(series(x.l, 1)), x.want},
			wrong{"a wrong series without samples", store(series(x.l)), x.want},
			wrong{"a wrong series, whose times are wrong", store(a, series(x.l, 2, 1, -1<<63)), x.want},
			wrong{"a wrong series behind others", store(a, b, series(x.l, 1), a), x.want},
			wrong{"the first of two wrong ones", store(series(x.l, 1), series(of("-", "-")), series(of("a", strings.Repeat("v", 101)), 1)), x.want})
	}
	return l
}

// L1: what Check tells, and all others ahead of all.
func TestCheckWrong(t *testing.T) {
	for _, c := range wrongStores() {
		if e := take.Check(c.l); e != c.want {
			t.Errorf("%s: it is %d, not %d", c.what, e, c.want)
		}
		for _, s := range []string{"", "\x00", sent(t, series(of("a", "x"), 7))} {
			refusesTake(t, c.l, s, c.want)
		}
		refusesGet(t, c.l, of("a", "x"), c.want)
		for _, x := range wrongLabels {
			refusesGet(t, c.l, x.l, c.want)
		}
	}
}

// L1: stores that are right.
func TestCheckRight(t *testing.T) {
	for _, l := range [][]api.Series{
		nil, {}, rising(500),
		store(series(of("a", "x"), till(5000)...), series(of("b", "x"), till(5000)...)),
		store(series(nil, 5), series(of("A", "z"), 1), series(of("a", "x"), -api.MaxTime, 0, api.MaxTime), series(of("a", "x", "b", "x"), 1), series(of("a", "xx"), 1), series(of("a", "y"), 1), series(many(20, strings.Repeat("v", 100)), 1)),
		store(api.Series{Labels: []api.Label{}, Samples: at(3)}),
	} {
		if e := take.Check(l); e != api.OK {
			t.Errorf("%.200v: it is %d", l, e)
		}
	}
}
