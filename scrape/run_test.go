package scrape_test

import (
	"fmt"
	"reflect"
	"strings"
	"testing"

	"gleaner/api"
	"gleaner/scrape"
)

const (
	one  = 0x3ff0000000000000
	two  = 0x4000000000000000
	half = 0x3fe0000000000000
)

// same: an empty list may be nil or not.
func same(a, b api.Outcome) bool {
	return sameLists(a.Watch.Target.Labels, b.Watch.Target.Labels, plain) && sameLists(a.Watch.Seen, b.Watch.Seen, sameLabels) &&
		sameRecords(a.Series, b.Series) && sameRecords(a.Samples, b.Samples) &&
		a.Late == b.Late && a.Dropped == b.Dropped && a.Failed == b.Failed
}

func sameRecords(a, b api.Record) bool {
	return a.Kind == b.Kind && sameLists(a.Points, b.Points, plain) && sameLists(a.Refs, b.Refs, func(x, y api.Ref) bool {
		return x.Ref == y.Ref && sameLabels(x.Labels, y.Labels)
	})
}

func sameLabels(a, b []api.Label) bool { return sameLists(a, b, plain) }

func plain[T comparable](a, b T) bool { return a == b }

func sameLists[T any](a, b []T, same func(x, y T) bool) bool {
	if len(a) != len(b) {
		return false
	}
	for i := range a {
		if !same(a[i], b[i]) {
			return false
		}
	}
	return true
}

// told: a scrape of a target that told this, at 100, within wide limits.
func told(body string, rules ...api.Rule) api.Scrape {
	return api.Scrape{Body: body, Told: true, Now: 100, Limits: api.Limits{Bytes: 20000, Readings: 300}, Rules: rules}
}

// ref that is known: its number, its labels, and its last time, or none.
type ref struct {
	n    int
	l    []api.Label
	last any
}

func known(refs ...ref) api.Known {
	var k api.Known
	for _, x := range refs {
		last, has := x.last.(int)
		k.Refs, k.Lasts, k.Has = append(k.Refs, api.Ref{Ref: x.n, Labels: x.l}), append(k.Lasts, last), append(k.Has, has)
	}
	return k
}

// outcome: what must come of a scrape, in short: the new refs are told without a last time.
type outcome struct {
	seen          [][]api.Label
	refs          []ref
	points        []api.Point
	late, dropped int
	failed        bool
}

func (o outcome) of(w api.Watch) api.Outcome {
	return api.Outcome{
		Watch:   api.Watch{Target: w.Target, Seen: o.seen},
		Series:  api.Record{Kind: api.RecordSeries, Refs: known(o.refs...).Refs},
		Samples: api.Record{Kind: api.RecordSamples, Points: o.points},
		Late:    o.late, Dropped: o.dropped, Failed: o.failed,
	}
}

// runs: this must come of a scrape.
func runs(t *testing.T, what string, w api.Watch, s api.Scrape, k api.Known, want outcome) {
	t.Helper()
	if o, e := scrape.Run(w, s, k); !same(o, want.of(w)) || e != api.OK {
		t.Errorf("%s: it is\n%v %d, not\n%v", what, o, e, want.of(w))
	}
	learnable(t, w, s, k)
}

func point(ref, time int, bits uint64) api.Point {
	return api.Point{Ref: ref, Time: time, Bits: bits}
}

func points(l ...api.Point) []api.Point { return l }

var job = of("job", "j")

// J3 and J5: readings of an empty target, and of one with labels; at Now, and at times of their own.
func TestReadings(t *testing.T) {
	up, m := of("__name__", "up"), of("__name__", "m", "x", "1")
	runs(t, "nothing", watch(nil), told(""), api.Known{}, outcome{})
	runs(t, "nothing but remarks", watch(job), told("# TYPE up gauge\n\n"), api.Known{}, outcome{})
	runs(t, "one", watch(nil), told("up 1"), api.Known{}, outcome{seen: list(up), refs: []ref{{1, up, nil}}, points: points(point(1, 100, one))})
	runs(t, "two", watch(nil), told("up 1\nm{x=\"1\"} 2\n"), api.Known{}, outcome{seen: list(m, up), refs: []ref{{1, up, nil}, {2, m, nil}}, points: points(point(1, 100, one), point(2, 100, two))})
	runs(t, "times of their own", watch(nil), told("up 1 -5\nm{x=\"1\"} 2 9007199254740991\n"), api.Known{}, outcome{seen: list(m, up), refs: []ref{{1, up, nil}, {2, m, nil}}, points: points(point(1, -5, one), point(2, api.MaxTime, two))})
	runs(t, "a time of its own that is 0", watch(nil), told("up 1 0"), api.Known{}, outcome{seen: list(up), refs: []ref{{1, up, nil}}, points: points(point(1, 0, one))})
	with := of("__name__", "up", "job", "j")
	runs(t, "the target's label", watch(job), told("up 1"), api.Known{}, outcome{seen: list(with), refs: []ref{{1, with, nil}}, points: points(point(1, 100, one))})
	runs(t, "the target's value", watch(job), told(`up{job="z",a="b"} 1`), api.Known{}, outcome{seen: list(of("__name__", "up", "a", "b", "job", "j")), refs: []ref{{1, of("__name__", "up", "a", "b", "job", "j"), nil}}, points: points(point(1, 100, one))})
	runs(t, "the target's name", watch(of("__name__", "m", "x", "1")), told("up 1\nm 2 101"), api.Known{}, outcome{seen: list(m), refs: []ref{{1, m, nil}}, points: points(point(1, 100, one), point(1, 101, two))})
	runs(t, "many labels of a target", watch(many(19, "w")), told(`up{na="1",nb="2",ns="3"} 1`), api.Known{}, outcome{seen: list(append(up[:1:1], many(19, "w")...)), refs: []ref{{1, append(up[:1:1], many(19, "w")...), nil}}, points: points(point(1, 100, one))})
	runs(t, "special numbers", watch(nil), told("up NaN 1\nup +Inf 2\nup -Inf 3"), api.Known{}, outcome{seen: list(up), refs: []ref{{1, up, nil}}, points: points(point(1, 1, api.BitsNone), point(1, 2, api.BitsMore), point(1, 3, api.BitsLess))})
}

// J3: the refs that series have, and get.
func TestRefs(t *testing.T) {
	a, b, c, d := of("__name__", "a"), of("__name__", "b"), of("__name__", "c"), of("__name__", "d")
	k := known(ref{3, b, nil}, ref{7, d, 50})
	runs(t, "known ones alone", watch(nil), told("d 1\nb 2"), k, outcome{seen: list(b, d), points: points(point(7, 100, one), point(3, 100, two))})
	runs(t, "new ones among them", watch(nil), told("c 1\nd 1\na 2\nb 1\nc 2 200\n"), k, outcome{seen: list(a, b, c, d), refs: []ref{{8, c, nil}, {9, a, nil}}, points: points(point(8, 100, one), point(7, 100, one), point(9, 100, two), point(3, 100, one), point(8, 200, two))})
	runs(t, "the last ref", watch(nil), told("a 1"), known(ref{999999, b, nil}), outcome{seen: list(a), refs: []ref{{1000000, a, nil}}, points: points(point(1000000, 100, one))})
	runs(t, "known ones behind the last ref", watch(nil), told("b 1"), known(ref{1000000, b, nil}), outcome{seen: list(b), points: points(point(1000000, 100, one))})
	runs(t, "series whose texts look alike", watch(of("__name__", `a{b="c"}`)), told("x 1\n"), known(ref{1, of("__name__", "a", "b", "c"), 100}), outcome{seen: list(of("__name__", `a{b="c"}`)), refs: []ref{{2, of("__name__", `a{b="c"}`), nil}}, points: points(point(2, 100, one))})
}

// J3: readings that come too late: as their last time, or ahead of it, by what is known or by this scrape.
func TestLate(t *testing.T) {
	up, b := of("__name__", "up"), of("__name__", "b")
	for _, c := range []struct {
		body   string
		last   any
		points []api.Point
		late   int
	}{
		{"up 1", 99, points(point(5, 100, one)), 0},
		{"up 1", 100, nil, 1},
		{"up 1", 101, nil, 1},
		{"up 1", nil, points(point(5, 100, one)), 0},
		{"up 1 -5", nil, points(point(5, -5, one)), 0},
		{"up 1 -5", 0, nil, 1},
		{"up 1 -5", -6, points(point(5, -5, one)), 0},
		{"up 1 200", 100, points(point(5, 200, one)), 0},
		{"up 1\nup 2", 0, points(point(5, 100, one)), 1},
		{"up 1\nup 2 101", 0, points(point(5, 100, one), point(5, 101, two)), 0},
		{"up 1\nup 2 99", nil, points(point(5, 100, one)), 1},
		{"up 1 5\nup 2 7\nup 1 6\nup 2 8\nup 1 8", 5, points(point(5, 7, two), point(5, 8, two)), 3},
		{"up 1 0\nup 2 0", nil, points(point(5, 0, one)), 1},
		{"up 1 -9007199254740991\nup 2 9007199254740991\nup 2", nil, points(point(5, -api.MaxTime, one), point(5, api.MaxTime, two)), 1},
	} {
		runs(t, c.body, watch(nil), told(c.body), known(ref{5, up, c.last}), outcome{seen: list(up), points: c.points, late: c.late})
		// A series that was seen is not stale, though it is late.
		runs(t, c.body, watch(nil, up), told(c.body), known(ref{5, up, c.last}), outcome{seen: list(up), points: c.points, late: c.late})
	}
	runs(t, "of a new one", watch(nil), told("b 1\nup 1\nb 2\nb 1 50\nup 2 3"), known(ref{5, up, 0}), outcome{seen: list(b, up), refs: []ref{{6, b, nil}}, points: points(point(6, 100, one), point(5, 100, one)), late: 3})
}

// J3: what rules change, and drop.
func TestRules(t *testing.T) {
	up := of("__name__", "up", "job", "j")
	body := "up{a=\"1\"} 1\nup{a=\"2\"} 2\nb 1\n"
	lose := func(mask string) api.Rule { return api.Rule{Kind: api.RuleLose, Mask: mask} }
	drop := api.Rule{Kind: api.RuleDrop, Sources: []string{"__name__"}, Mask: "up"}
	keepJob := api.Rule{Kind: api.RuleKeep, Sources: []string{"job"}, Mask: "j"}
	b := of("__name__", "b", "job", "j")
	runs(t, "dropped", watch(job), told(body, drop), api.Known{}, outcome{seen: list(b), refs: []ref{{1, b, nil}}, points: points(point(1, 100, one)), dropped: 2})
	runs(t, "what is dropped takes no ref, and is not late", watch(job), told("up 1\n"+body, drop), known(ref{4, up, 500}), outcome{seen: list(b), refs: []ref{{5, b, nil}}, points: points(point(5, 100, one)), dropped: 3})
	runs(t, "all are dropped", watch(job), told(body, drop, api.Rule{Kind: api.RuleDrop}), api.Known{}, outcome{dropped: 3})
	runs(t, "without labels", watch(job), told(body, lose(".*")), api.Known{}, outcome{dropped: 3})
	runs(t, "without labels, though a series is known by that text", watch(job), told(body, lose(".*")), known(ref{1, of("__name__", "{}"), nil}), outcome{dropped: 3})
	runs(t, "made one series", watch(job), told(body, lose("a")), api.Known{}, outcome{seen: list(b, up), refs: []ref{{1, up, nil}, {2, b, nil}}, points: points(point(1, 100, one), point(2, 100, one)), late: 1})
	runs(t, "rules see the target's labels", watch(job), told("up{job=\"z\"} 1", keepJob), api.Known{}, outcome{seen: list(up), refs: []ref{{1, up, nil}}, points: points(point(1, 100, one))})
	runs(t, "rules change the target's labels", watch(job), told("up 1", lose("job")), api.Known{}, outcome{seen: list(up[:1]), refs: []ref{{1, up[:1], nil}}, points: points(point(1, 100, one))})
	runs(t, "rules one behind the other", watch(job), told("up 1\nb 1", api.Rule{Kind: api.RuleReplace, Sources: []string{"__name__"}, Mask: "(.)", Target: "c", Replacement: "$1"}, api.Rule{Kind: api.RuleDrop, Sources: []string{"c"}}), api.Known{}, outcome{seen: list(of("__name__", "b", "c", "b", "job", "j")), refs: []ref{{1, of("__name__", "b", "c", "b", "job", "j"), nil}}, points: points(point(1, 100, one)), dropped: 1})
}

// J4: series that were seen, and are not now.
func TestStale(t *testing.T) {
	a, b, c, d, e := of("__name__", "a"), of("__name__", "b"), of("__name__", "c"), of("__name__", "d"), of("__name__", "e")
	k := known(ref{2, e, 99}, ref{4, c, nil}, ref{5, b, 100}, ref{6, d, 101}, ref{9, a, -5})
	stale := func(refs ...int) []api.Point {
		var l []api.Point
		for _, n := range refs {
			l = append(l, point(n, 100, api.BitsStale))
		}
		return l
	}
	runs(t, "all of them", watch(nil, a, b, c, d, e), told(""), k, outcome{points: stale(9, 4, 2)})
	runs(t, "some of them", watch(nil, a, b, c, d, e), told("c 1\na 1"), k, outcome{seen: list(a, c), points: append(points(point(4, 100, one), point(9, 100, one)), stale(2)...)})
	runs(t, "those that were seen alone", watch(nil, e), told(""), k, outcome{points: stale(2)})
	runs(t, "none was seen", watch(nil), told(""), k, outcome{})
	runs(t, "one that is late now", watch(nil, e), told("e 1 5"), k, outcome{seen: list(e), late: 1})
	runs(t, "one that is dropped now", watch(nil, a, e), told("e 1\n", api.Rule{Kind: api.RuleDrop}), k, outcome{points: stale(9, 2), dropped: 1})
	runs(t, "one that is not known", watch(nil, of("__name__", "0"), a, of("z", "z")), told(""), k, outcome{points: stale(9)})
	runs(t, "nothing is known", watch(nil, a, b), told("c 1"), api.Known{}, outcome{seen: list(c), refs: []ref{{1, c, nil}}, points: points(point(1, 100, one))})
	runs(t, "one that is not known comes now", watch(nil, a, b), told("b 1"), api.Known{}, outcome{seen: list(b), refs: []ref{{1, b, nil}}, points: points(point(1, 100, one))})
	runs(t, "none has labels", watch(nil, nil), told(""), known(ref{1, of("__name__", "{}"), nil}), outcome{})
	runs(t, "none has labels, and one is by that text", watch(nil, nil, of("__name__", "{}")), told(""), known(ref{1, of("__name__", "{}"), nil}), outcome{points: stale(1)})
	late := told("")
	late.Now = -api.MaxTime
	runs(t, "at the first time", watch(nil, a, c), late, k, outcome{points: points(point(4, -api.MaxTime, api.BitsStale))})
	late.Now = 101
	runs(t, "a bit later", watch(nil, a, b, c, d, e), late, k, outcome{points: points(point(9, 101, api.BitsStale), point(5, 101, api.BitsStale), point(4, 101, api.BitsStale), point(2, 101, api.BitsStale))})
}

// lines, as many, each of another series.
func lines(n int) string {
	s := ""
	for i := range n {
		s += fmt.Sprintf("m{a=\"%d\"} 1\n", 1000+i)
	}
	return s
}

// fails: a scrape must, and log that those end that were seen, and nothing else.
func fails(t *testing.T, what string, w api.Watch, s api.Scrape) {
	t.Helper()
	// Four are known, the second one at a time that is too late to end; what is not known does not end.
	w.Seen = list(of("__name__", "k", "i", "1"), of("__name__", "k", "i", "2"), of("__name__", "k", "i", "3"), of("__name__", "k", "i", "9"))
	k := known(ref{7, w.Seen[2], nil}, ref{8, w.Seen[1], s.Now}, ref{999990, of("__name__", "other"), 5}, ref{999999, w.Seen[0], -api.MaxTime})
	runs(t, what, w, s, k, outcome{points: points(point(999999, s.Now, api.BitsStale), point(7, s.Now, api.BitsStale)), failed: true})
	runs(t, what+", and nothing was seen", api.Watch{Target: w.Target}, s, k, outcome{failed: true})
}

// J2 and J4: a scrape that fails.
func TestFails(t *testing.T) {
	untold := told("up 1\n")
	untold.Told = false
	fails(t, "nothing was told", watch(job), untold)
	untold.Body = ""
	fails(t, "nothing was told at all", watch(nil), untold)
	for _, body := range []string{"x", "up 1\nup x", "up", "\x00", "up 1 9007199254740992", "up{a=\"1\",a=\"2\"} 1", "up{a=\"" + strings.Repeat("v", 101) + "\"} 1", "up 1\n# TYPE up gauge", strings.Repeat("#", 20001)} {
		fails(t, body, watch(job), told(body))
	}
	fails(t, "one series, one late, one dropped, and then none", watch(nil), told("up 1\nup 1\nb 1\nx", api.Rule{Kind: api.RuleDrop, Sources: []string{"__name__"}, Mask: "b"}))
	fails(t, "a known one, and then none", watch(nil), told("k{i=\"3\"} 1\nx"))
	short := told("up 1\n")
	short.Limits.Bytes = 4
	fails(t, "too many bytes", watch(job), short)
	short.Limits.Bytes = 0
	fails(t, "more than no bytes", watch(job), short)
	short.Limits = api.Limits{Bytes: 20000, Readings: 0}
	fails(t, "more than no readings", watch(job), short)
	short.Limits.Readings, short.Body = 1, "up 1\nup 2"
	fails(t, "too many readings", watch(job), short)
	short.Rules = []api.Rule{{Kind: api.RuleDrop}}
	fails(t, "too many readings that would be dropped", watch(job), short)
	fails(t, "more readings than there may be", watch(job), told(strings.Repeat("up 1\n", 301)))
}

// J2: labels that can't be made, and rules with an error.
func TestFailsByLabels(t *testing.T) {
	fails(t, "too many labels", watch(many(20, "v")), told("up 1\n"))
	fails(t, "one too many of a reading", watch(of("z", "1", "zz", "2")), told(`up{a="1",b="1",c="1",d="1",e="1",f="1",g="1",h="1",i="1",j="1",k="1",l="1",m="1",n="1",o="1",p="1",q="1",r="1"} 1`))
	fails(t, "too many labels of the last reading", watch(many(19, "v")), told("up 1\nup{z=\"1\"} 1"))
	drop := api.Rule{Kind: api.RuleDrop}
	fails(t, "too many labels of what would be dropped", watch(many(20, "v")), told("up 1\n", drop))
	put := api.Rule{Kind: api.RuleReplace, Target: "z", Replacement: "z"}
	fails(t, "a rule makes too many labels", watch(many(19, "v")), told("up 1\n", put))
	fails(t, "a rule makes too many labels, and the next one drops them", watch(many(19, "v")), told("up 1\n", put, drop))
	sources := make([]string, 20)
	for i := range sources {
		sources[i] = "long"
	}
	fails(t, "a Source is too long", watch(of("long", strings.Repeat("v", 100))), told("up 1\n", api.Rule{Kind: api.RuleDrop, Sources: sources, Between: "-"}))
	full := append(of("__name__", "up"), many(19, "v")...)
	runs(t, "as many labels as may be", watch(many(19, "v")), told("up 1\n", api.Rule{Kind: api.RuleReplace, Target: "na", Replacement: "v"}), api.Known{}, outcome{seen: list(full), refs: []ref{{1, full, nil}}, points: points(point(1, 100, one))})
	runs(t, "too many, but what would make them comes behind", watch(many(19, "v")), told("up 1\n", drop, put), api.Known{}, outcome{dropped: 1})
}

// J2: as many bytes and readings as may be, and none.
func TestWithinLimits(t *testing.T) {
	up := of("__name__", "up")
	s := told("up 1\nup 2 200")
	s.Limits = api.Limits{Bytes: 13, Readings: 2}
	want := outcome{seen: list(up), refs: []ref{{1, up, nil}}, points: points(point(1, 100, one), point(1, 200, two))}
	runs(t, "the limits", watch(nil), s, api.Known{}, want)
	s.Limits.Bytes = 12
	runs(t, "a byte less", watch(nil), s, api.Known{}, outcome{failed: true})
	s.Limits = api.Limits{Bytes: 13, Readings: 1}
	runs(t, "a reading less", watch(nil), s, api.Known{}, outcome{failed: true})
	runs(t, "no limit but 0", watch(nil), api.Scrape{Told: true}, api.Known{}, outcome{})
	s = told("# up\n\n")
	s.Limits.Readings = 0
	runs(t, "no readings", watch(nil), s, api.Known{}, outcome{})
}

// J2: how much may be logged: samples of readings, and of what ends, together.
func TestTooMuch(t *testing.T) {
	up := of("__name__", "up")
	for _, n := range []int{199, 200, 201, 300} {
		o, e := scrape.Run(watch(nil), told(lines(n)), api.Known{})
		if e != api.OK || o.Failed != (n > 200) || len(o.Series.Refs) != len(o.Samples.Points) || len(o.Watch.Seen) != len(o.Series.Refs) || !o.Failed && len(o.Series.Refs) != n || o.Failed && len(o.Series.Refs) != 0 {
			t.Errorf("%d new series: %d of them, %d samples, %d seen, %v", n, len(o.Series.Refs), len(o.Samples.Points), len(o.Watch.Seen), o.Failed)
		}
		body := ""
		for i := range n {
			body += fmt.Sprintf("up 1 %d\n", i)
		}
		o, e = scrape.Run(watch(nil), told(body), known(ref{1, up, nil}))
		if e != api.OK || o.Failed != (n > 200) || !o.Failed && len(o.Samples.Points) != n {
			t.Errorf("%d samples of one series: %d, %v", n, len(o.Samples.Points), o.Failed)
		}
		// What is late, or dropped, is not logged.
		o, e = scrape.Run(watch(nil), told(body), known(ref{1, up, 99}))
		if e != api.OK || o.Failed || o.Late != 100 || len(o.Samples.Points) != n-100 {
			t.Errorf("%d samples, 100 of them late: %d, %d late, %v", n, len(o.Samples.Points), o.Late, o.Failed)
		}
		o, e = scrape.Run(watch(nil), told(lines(n), api.Rule{Kind: api.RuleDrop}), api.Known{})
		if e != api.OK || o.Failed || o.Dropped != n {
			t.Errorf("%d that are dropped: %d dropped, %v", n, o.Dropped, o.Failed)
		}
	}
	var old []ref
	var seen [][]api.Label
	for i := range 300 {
		old = append(old, ref{i + 1, of("__name__", "old", "a", fmt.Sprint(1000+i)), 50})
		seen = append(seen, old[i].l)
	}
	for _, c := range []struct{ lines, old int }{{150, 50}, {150, 51}, {200, 0}, {200, 1}, {0, 200}, {0, 201}, {1, 199}, {1, 200}, {0, 300}, {199, 300}} {
		o, e := scrape.Run(watch(nil, seen[:c.old]...), told(lines(c.lines)), known(old[:c.old]...))
		fail := c.lines+c.old > 200
		if e != api.OK || o.Failed != fail || !fail && len(o.Samples.Points) != c.lines+c.old || fail && len(o.Samples.Points) != min(c.old, 200) {
			t.Errorf("%d readings, and %d that end: %d samples, %v", c.lines, c.old, len(o.Samples.Points), o.Failed)
		}
		ends := o.Samples.Points[len(o.Samples.Points)-min(c.old, 200):]
		for i, p := range ends {
			if p != point(i+1, 100, api.BitsStale) {
				t.Errorf("%d that end: the %dth one is %v", c.old, i, p)
			}
		}
	}
}

// J2: a ref that would be too great.
func TestTooGreatARef(t *testing.T) {
	a, b := of("__name__", "a"), of("__name__", "b")
	k := known(ref{3, a, 50}, ref{1000000, b, 50})
	runs(t, "one more", watch(nil, a, b), told("a 1\nc 1"), k, outcome{points: points(point(3, 100, api.BitsStale), point(1000000, 100, api.BitsStale)), failed: true})
	runs(t, "none more", watch(nil, a, b), told("a 1\nc 1", api.Rule{Kind: api.RuleDrop, Sources: []string{"__name__"}, Mask: "c"}), k, outcome{seen: list(a), points: points(point(3, 100, one), point(1000000, 100, api.BitsStale)), dropped: 1})
	k = known(ref{999999, a, 50})
	runs(t, "two more", watch(nil), told("b 1\na 1\nc 1"), k, outcome{failed: true})
	runs(t, "two more readings of one", watch(nil), told("b 1\na 1\nb 0.5 105"), k, outcome{seen: list(a, b), refs: []ref{{1000000, b, nil}}, points: points(point(1000000, 100, one), point(999999, 100, one), point(1000000, 105, half))})
}

// J5: what was seen rises, whatever order it was told in, and with which labels.
func TestSeenRises(t *testing.T) {
	body := "b{z=\"1\"} 1\nb 1\na{b=\"2\"} 1\na{b=\"10\"} 1\na{a=\"9\"} 1\nB 1\nb{z=\"1\",y=\"1\"} 1\n"
	o, e := scrape.Run(watch(nil), told(body), api.Known{})
	want := list(of("__name__", "B"), of("__name__", "a", "a", "9"), of("__name__", "a", "b", "10"), of("__name__", "a", "b", "2"), of("__name__", "b"), of("__name__", "b", "y", "1", "z", "1"), of("__name__", "b", "z", "1"))
	if e != api.OK || !reflect.DeepEqual(o.Watch.Seen, want) || scrape.Check(o.Watch) != api.OK {
		t.Errorf("it is %v %d, not %v", o.Watch.Seen, e, want)
	}
	if n := len(o.Series.Refs); n != 7 || !sameLabels(o.Series.Refs[0].Labels, of("__name__", "b", "z", "1")) || o.Series.Refs[6].Ref != 7 {
		t.Errorf("the refs are %v", o.Series.Refs)
	}
}
