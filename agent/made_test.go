package agent_test

import (
	"slices"
	"strconv"
	"strings"
	"testing"

	"gleaner/agent"
	"gleaner/api"
	"gleaner/log"
	"gleaner/record"
)

// of some names and values, one behind the other.
func of(namesAndValues ...string) []api.Label {
	var l []api.Label
	for i := 0; i < len(namesAndValues); i += 2 {
		l = append(l, api.Label{Name: namesAndValues[i], Value: namesAndValues[i+1]})
	}
	return l
}

// many labels, whose names are na to nz.
func many(n int, value string) []api.Label {
	var l []api.Label
	for i := range n {
		l = append(l, api.Label{Name: "n" + string(rune('a'+i)), Value: value})
	}
	return l
}

func target(namesAndValues ...string) api.Target {
	return api.Target{Labels: of(namesAndValues...)}
}

// shards: two; of job j the names a, c and e belong in the first one, b, d and f in the other.
func shards() []api.Shard {
	return []api.Shard{{Batch: 2, Room: 3, First: 10, Most: 40}, {Batch: 1, Room: 2, First: 5, Most: 5}}
}

// made: a new agent, that must be right.
func made(t *testing.T, shards []api.Shard, targets ...api.Target) api.Agent {
	t.Helper()
	a, e := agent.New(targets, shards)
	if e != api.OK {
		t.Fatalf("%v, %v: it is %d", targets, shards, e)
	}
	return a
}

func scraped(which int, s api.Scrape) api.Event {
	s.Limits = api.Limits{Bytes: api.MaxText, Readings: api.MaxReadings}
	return api.Event{Kind: api.EventScrape, Which: which, Scrape: s}
}

// tells: a target told something.
func tells(which int, body string) api.Event {
	return scraped(which, api.Scrape{Body: body, Told: true})
}

// silent: a target told nothing.
func silent(which int) api.Event { return scraped(which, api.Scrape{}) }

func sync() api.Event { return api.Event{Kind: api.EventSync} }

func fill() api.Event { return api.Event{Kind: api.EventFill} }

func send(which, fate int) api.Event {
	return api.Event{Kind: api.EventSend, Which: which, Fate: fate}
}

func tick(n int) api.Event { return api.Event{Kind: api.EventTick, N: n} }

func crash(n int) api.Event { return api.Event{Kind: api.EventCrash, N: n} }

// behind some events: none of them may be refused.
func behind(t *testing.T, a api.Agent, events ...api.Event) api.Agent {
	t.Helper()
	for i, x := range events {
		b, e := agent.Step(a, x)
		if e != api.OK {
			t.Fatalf("%d: %v behind %v: it is %d", i, x, a, e)
		}
		if e := agent.Check(b); e != api.OK {
			t.Fatalf("%d: %v behind %v: what comes is %v: %d", i, x, a, b, e)
		}
		a = b
	}
	return a
}

// steps: an event must make this of an agent.
func steps(t *testing.T, a api.Agent, x api.Event, want api.Agent) {
	t.Helper()
	if b, e := agent.Step(a, x); !same(b, want) || e != api.OK {
		t.Errorf("%v behind %v: it is %v %d, not %v", x, a, b, e, want)
	}
}

// refuses: an event must have this error.
func refuses(t *testing.T, a api.Agent, x api.Event, want api.Errno) {
	t.Helper()
	if b, e := agent.Step(a, x); !same(b, api.Agent{}) || e != want {
		t.Errorf("%v behind %.500q: it is %.500q %d, not %d", x, a.Log, b.Log, e, want)
	}
}

func sameItems(a, b []api.Item) bool {
	return slices.EqualFunc(a, b, func(x, y api.Item) bool {
		return x.Number == y.Number && slices.Equal(x.Labels, y.Labels) && x.Sample == y.Sample
	})
}

func sameShards(a, b []api.Shard) bool {
	return slices.EqualFunc(a, b, func(x, y api.Shard) bool {
		return sameItems(x.Items, y.Items) && x.Batch == y.Batch && x.Room == y.Room && x.First == y.First && x.Most == y.Most && x.Waits == y.Waits && x.Till == y.Till
	})
}

func sameWatches(a, b []api.Watch) bool {
	return slices.EqualFunc(a, b, func(x, y api.Watch) bool {
		return slices.Equal(x.Target.Labels, y.Target.Labels) && slices.EqualFunc(x.Seen, y.Seen, slices.Equal)
	})
}

func sameStore(a, b []api.Series) bool {
	return slices.EqualFunc(a, b, func(x, y api.Series) bool {
		return slices.Equal(x.Labels, y.Labels) && slices.Equal(x.Samples, y.Samples)
	})
}

// same: an empty list may be nil or not.
func same(a, b api.Agent) bool {
	return sameWatches(a.Watches, b.Watches) && sameShards(a.Shards, b.Shards) && sameStore(a.Store, b.Store) &&
		a.Log == b.Log && a.Lasting == b.Lasting && a.Cursor == b.Cursor && a.LastCursor == b.LastCursor && a.Filled == b.Filled && a.Now == b.Now
}

func ref(n int, namesAndValues ...string) api.Ref {
	return api.Ref{Ref: n, Labels: of(namesAndValues...)}
}

func series(refs ...api.Ref) api.Record {
	return api.Record{Kind: api.RecordSeries, Refs: refs}
}

func point(ref, time int, bits uint64) api.Point {
	return api.Point{Ref: ref, Time: time, Bits: bits}
}

func samples(points ...api.Point) api.Record {
	return api.Record{Kind: api.RecordSamples, Points: points}
}

// logged: records behind a log.
func logged(t *testing.T, s string, records ...api.Record) string {
	t.Helper()
	for _, r := range records {
		text, e := record.Pack(r)
		if e != api.OK {
			t.Fatalf("%v: %d", r, e)
		}
		if s, e = log.Append(s, text); e != api.OK {
			t.Fatalf("%v behind %d bytes: %d", r, len(s), e)
		}
	}
	return s
}

// endsOf: where records end in a log that was appended: 0 first.
func endsOf(t *testing.T, s string) []int {
	t.Helper()
	again, ends := "", []int{0}
	records, _ := log.Read(s)
	for _, x := range records {
		again, _ = log.Append(again, x)
		ends = append(ends, len(again))
	}
	if again != s {
		t.Fatalf("%q is no log that was appended", s)
	}
	return ends
}

// part of a record, of a kind, as a log has it.
func part(kind byte, s string) string {
	sum := log.Check(s)
	return string([]byte{kind, byte(len(s)), byte(len(s) >> 8), byte(sum), byte(sum >> 8), byte(sum >> 16), byte(sum >> 24)}) + s
}

// lines: as many readings, by the names m0, m1 and so on.
func lines(n int) string {
	var b strings.Builder
	for i := range n {
		b.WriteString("m" + strconv.Itoa(i) + " 1\n")
	}
	return b.String()
}
