package agent_test

import (
	"strings"
	"testing"

	"gleaner/agent"
	"gleaner/api"
	"gleaner/log"
)

// M3: what a scrape logs stands behind the log, the series ahead of the samples, and the watch is as it says.
func TestStepScrape(t *testing.T) {
	a := behind(t, made(t, shards(), target("job", "j"), target("job", "k")), tick(5))
	want := a
	up, m := ref(1, "__name__", "up", "job", "j"), ref(2, "__name__", "m", "job", "j")
	want.Log = logged(t, "", series(up, m), samples(point(1, 5, oneBits), point(2, 5, 0)))
	want.Watches = []api.Watch{{Target: target("job", "j"), Seen: [][]api.Label{m.Labels, up.Labels}}, {Target: target("job", "k")}}
	steps(t, a, tells(0, "up 1\nm 0\n"), want)
	// Neither the log lasts by that, nor is anything filled; another target's series are new ones.
	a = want
	want.Log = logged(t, want.Log, series(ref(3, "__name__", "up", "job", "k")), samples(point(3, 5, oneBits)))
	want.Watches = []api.Watch{a.Watches[0], {Target: target("job", "k"), Seen: [][]api.Label{of("__name__", "up", "job", "k")}}}
	steps(t, a, tells(1, "up 1"), want)
	// What is known gets no record of series; what is seen no more, or a scrape that fails, tells just where that ends.
	a = behind(t, a, tick(1))
	want = a
	want.Log = logged(t, a.Log, samples(point(1, 6, oneBits), point(2, 6, api.BitsStale)))
	want.Watches = []api.Watch{{Target: target("job", "j"), Seen: [][]api.Label{up.Labels}}, {Target: target("job", "k")}}
	steps(t, a, tells(0, "up 1"), want)
	want.Log = logged(t, a.Log, samples(point(2, 6, api.BitsStale), point(1, 6, api.BitsStale)))
	want.Watches = []api.Watch{{Target: target("job", "j")}, {Target: target("job", "k")}}
	for _, x := range []api.Event{silent(0), tells(0, ""), tells(0, "up x"), tells(0, "#"), tells(0, lines(301))} {
		steps(t, a, x, want)
	}
	// Nothing that is to be logged changes the log.
	for _, x := range []api.Event{silent(1), tells(1, ""), tells(1, "# none")} {
		steps(t, a, x, a)
	}
	late := a
	late.Watches = []api.Watch{a.Watches[0], {Target: target("job", "k"), Seen: [][]api.Label{of("__name__", "up", "job", "j")}}}
	toJ := api.Rule{Kind: api.RuleReplace, Mask: ".*", Target: "job", Replacement: "j"}
	steps(t, a, scraped(1, api.Scrape{Body: "up 1 5", Told: true, Rules: []api.Rule{toJ}}), late)
}

// M3: whatever Now a scrape says, the agent's counts.
func TestStepScrapeNow(t *testing.T) {
	a := behind(t, made(t, shards(), target("job", "j")), tick(5), tells(0, "up 1"), tick(2))
	want := a
	want.Log = logged(t, a.Log, samples(point(1, 7, oneBits)))
	for _, now := range []int{0, 3, 7, 1000, -1, api.MaxTime + 1, -1 << 63, 1<<63 - 1} {
		x := tells(0, "up 1")
		x.Scrape.Now = now
		steps(t, a, x, want)
	}
	// A reading's own time counts ahead of it; and so one may come that is not later.
	want.Log = logged(t, a.Log, samples(point(1, 6, oneBits), point(1, 9, oneBits)))
	steps(t, a, tells(0, "up 1 6\nup 1 5\nup 1 9\nup 1"), want)
}

// M3: limits and rules are those of the event.
func TestStepScrapeRules(t *testing.T) {
	a := made(t, shards(), target("job", "j"))
	drop := api.Rule{Kind: api.RuleDrop, Sources: []string{"__name__"}, Mask: "m.*"}
	want := a
	want.Log = logged(t, "", series(ref(1, "__name__", "up", "job", "j")), samples(point(1, 0, oneBits)))
	want.Watches = []api.Watch{{Target: target("job", "j"), Seen: [][]api.Label{of("__name__", "up", "job", "j")}}}
	body := api.Scrape{Body: "m 1\nup 1\nm1 1\n", Told: true, Rules: []api.Rule{drop}}
	steps(t, a, scraped(0, body), want)
	for _, limits := range []api.Limits{{Bytes: len(body.Body) - 1, Readings: 3}, {Bytes: len(body.Body), Readings: 2}, {}} {
		x := scraped(0, body)
		x.Scrape.Limits = limits
		steps(t, a, x, a)
	}
}

// M3: the errors of a scrape.
func TestStepScrapeWrong(t *testing.T) {
	a := busy(t)
	bounds := func(bytes, readings int) api.Event {
		x := tells(0, "up 1")
		x.Scrape.Limits = api.Limits{Bytes: bytes, Readings: readings}
		return x
	}
	rules := func(l ...api.Rule) api.Event { return scraped(1, api.Scrape{Body: "up 1", Told: true, Rules: l}) }
	right := api.Rule{Kind: api.RuleHold, Mask: ".*"}
	refuses(t, a, bounds(-1, 1), api.ErrRange)
	refuses(t, a, bounds(1, -1), api.ErrRange)
	refuses(t, a, bounds(20001, 1), api.ErrRange)
	refuses(t, a, bounds(1, 301), api.ErrRange)
	refuses(t, a, rules(make([]api.Rule, 31)...), api.ErrMany)
	refuses(t, a, rules(right, api.Rule{}), api.ErrKind)
	refuses(t, a, rules(right, api.Rule{Kind: api.RuleHold, Mask: "("}, api.Rule{}), api.ErrForm)
	for _, x := range []api.Event{bounds(-1, 1), rules(api.Rule{}), tells(0, "up 1")} {
		for _, which := range []int{-1, 2, 100, 1<<63 - 1, -1 << 63} {
			x.Which = which
			refuses(t, a, x, api.ErrNone)
		}
	}
	refuses(t, made(t, shards()), tells(0, "up 1"), api.ErrNone)
}

// M3: a record that is too long for a log: neither is logged.
func TestStepScrapeLong(t *testing.T) {
	v := strings.Repeat("v", 100)
	a := made(t, shards(), target("a", v, "b", v, "c", v, "d", v, "e", v), target("job", "j"))
	refuses(t, a, tells(0, lines(50)), api.ErrMany)
	b := behind(t, a, tells(0, lines(20)), tells(1, lines(200)))
	if l, e := agent.Offered(b); len(l) != 220 || e != api.OK {
		t.Errorf("offered are %d %d", len(l), e)
	}
	// What is known is short enough: just new series are not.
	refuses(t, b, tells(0, lines(70)), api.ErrMany)
	behind(t, b, tick(1), tells(0, lines(20)))
}

// M3: more refs than may be known.
func TestStepScrapeKnown(t *testing.T) {
	var refs []api.Ref
	for i := range 999 {
		refs = append(refs, ref(i+1, "m", strings.Repeat("v", 1+i%100), "o", strings.Repeat("v", 1+i/100)))
	}
	a := made(t, shards(), target("job", "j"))
	for i := 0; i < 999; i += 111 {
		a.Log = logged(t, a.Log, series(refs[i:i+111]...))
	}
	refuses(t, a, tells(0, "a 1\nb 1"), api.ErrMany)
	b := behind(t, a, tells(0, "a 1"), sync(), tick(1), tells(0, "a 1"))
	refuses(t, b, tells(0, "b 1"), api.ErrMany)
	refuses(t, b, tells(0, "a 1\nb 1"), api.ErrMany)
	if l, e := agent.Offered(b); len(l) != 2 || l[0].Labels[0].Value != "a" || e != api.OK {
		t.Errorf("offered are %v %d", l, e)
	}
}

// M3: a log that has no room: neither is logged, also if there were room for the series.
func TestStepScrapeFull(t *testing.T) {
	a := behind(t, made(t, shards(), target("job", "j")), tells(0, "up 1"), tick(1))
	one := logged(t, "", samples(point(1, 0, 0)))[7:]
	for hundred := "\x02\x64" + strings.Repeat(one[2:], 100); len(a.Log) < 998000; {
		a.Log = appended(a.Log, hundred)
	}
	for len(a.Log) < 999850 {
		a.Log = appended(a.Log, one)
	}
	fits := map[[2]bool]int{}
	for full := false; !full; {
		m, e := log.Append(a.Log, logged(t, "", series(ref(2, "__name__", "m", "job", "j")))[7:])
		s, f := log.Append(m, logged(t, "", samples(point(2, 1, oneBits), point(1, 1, api.BitsStale)))[7:])
		if f == api.OK && e == api.OK {
			want := a
			want.Log, want.Watches = s, []api.Watch{{Target: target("job", "j"), Seen: [][]api.Label{of("__name__", "m", "job", "j")}}}
			if b, e := agent.Step(a, tells(0, "m 1")); !same(b, want) || e != api.OK {
				t.Errorf("behind %d bytes: it is %d bytes %d, not %d", len(a.Log), len(b.Log), e, len(s))
			}
		} else {
			refuses(t, a, tells(0, "m 1"), api.ErrMany)
		}
		fits[[2]bool{e == api.OK, e == api.OK && f == api.OK}]++
		next, e := log.Append(a.Log, one)
		if full = e != api.OK; !full {
			a.Log = next
		}
	}
	if len(fits) != 3 {
		t.Errorf("what fits is %v", fits)
	}
	// Where there is no room for anything what logs nothing is right.
	b := behind(t, a, tells(0, "up 1 0"), sync(), tick(1))
	refuses(t, b, tells(0, "up 1"), api.ErrMany)
	behind(t, b, tells(0, "up 1 0"), crash(0))
}
