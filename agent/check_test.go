package agent_test

import (
	"slices"
	"testing"

	"gleaner/agent"
	"gleaner/api"
	"gleaner/log"
)

// one number: its bits.
const oneBits = 0x3ff0000000000000

// waiting: an item of job j.
func waiting(n int, name string, time int) api.Item {
	return api.Item{Number: n, Labels: of("__name__", name, "job", "j"), Sample: api.Sample{Time: time, Bits: oneBits}}
}

// busy: an agent at 10, of which six samples last, and six more are offered; the numbers 1 and 3 wait in one shard, 4 in the other.
func busy(t *testing.T) api.Agent {
	t.Helper()
	a := behind(t, made(t, shards(), target("job", "j"), target("job", "k")),
		tick(7), tells(0, "a 1\nb 1\nc 1\nd 1\ne 1\nf 1"), sync(), fill(), send(0, api.FateDone), send(1, api.FateMute), sync(), tick(3), tells(0, "a 2\nb 2"))
	if a.Lasting != 197 || a.Cursor != 1 || a.LastCursor != 1 || a.Filled != 5 || a.Now != 10 || len(a.Store) != 3 ||
		!sameItems(a.Shards[0].Items, []api.Item{waiting(4, "e", 7)}) || !sameItems(a.Shards[1].Items, []api.Item{waiting(1, "b", 7), waiting(3, "d", 7)}) {
		t.Fatalf("it is %v", a)
	}
	return a
}

// change of an agent that is busy, and what Check says then.
type change struct {
	what string
	do   func(a *api.Agent)
	want api.Errno
}

// wrongWatches, in the order in which they are told.
var wrongWatches = []change{
	{"too many watches", func(a *api.Agent) {
		a.Watches = append(append(a.Watches, make([]api.Watch, 98)...), api.Watch{Target: target("1", "x")})
	}, api.ErrMany},
	{"a target's labels", func(a *api.Agent) { a.Watches[0].Target.Labels = of("1", "x") }, api.ErrForm},
	{"what was seen is not right", func(a *api.Agent) { a.Watches[0].Seen[1] = of("a", "x", "a", "x") }, api.ErrTwice},
	{"what was seen falls", func(a *api.Agent) { slices.Reverse(a.Watches[0].Seen) }, api.ErrState},
	{"another target's labels", func(a *api.Agent) { a.Watches[1].Target.Labels = of("a", "") }, api.ErrForm},
	{"too much was seen", func(a *api.Agent) { a.Watches[1].Seen = make([][]api.Label, 301) }, api.ErrMany},
	{"of another target the same was seen twice", func(a *api.Agent) { a.Watches[1].Seen = [][]api.Label{of("a", "x"), of("a", "x")} }, api.ErrState},
}

// wrongHead: too many shards, or too few; a log that can't be replayed, in this order.
var wrongHead = []change{
	{"no shards", func(a *api.Agent) { a.Shards = nil }, api.ErrRange},
	{"too many shards", func(a *api.Agent) {
		for len(a.Shards) < 9 {
			a.Shards = append(a.Shards, shards()[0])
		}
	}, api.ErrRange},
	{"a byte behind the log", func(a *api.Agent) { a.Log += "x" }, api.ErrState},
	{"a nought behind the log", func(a *api.Agent) { a.Log += "\x00" }, api.ErrState},
	{"a record that is none", func(a *api.Agent) { a.Log = appended(a.Log, "x") }, api.ErrState},
	{"a record that can't be learnt", func(a *api.Agent) { a.Log = appended(a.Log, "\x02\x01\x63\x02\x00\x00\x00\x00\x00\x00\x00\x00") }, api.ErrState},
	{"a record that breaks off", func(a *api.Agent) { a.Log = a.Log[:len(a.Log)-1] }, api.ErrState},
	{"another check", func(a *api.Agent) { a.Log = a.Log[:4] + "x" + a.Log[5:] }, api.ErrState},
	{"no record at all", func(a *api.Agent) { a.Log = "x" }, api.ErrState},
}

// wrongNumbers: all of them are told at once.
var wrongNumbers = []change{
	{"Lasting below 0", func(a *api.Agent) { a.Lasting = -1 }, api.ErrRange},
	{"Lasting far below 0", func(a *api.Agent) { a.Lasting = -1 << 63 }, api.ErrRange},
	{"Lasting above the log", func(a *api.Agent) { a.Lasting = len(a.Log) + 1 }, api.ErrRange},
	{"Lasting far above the log", func(a *api.Agent) { a.Lasting = 1<<63 - 1 }, api.ErrRange},
	{"Lasting ahead of a record's end", func(a *api.Agent) { a.Lasting-- }, api.ErrRange},
	{"Lasting behind a record's end", func(a *api.Agent) { a.Lasting++ }, api.ErrRange},
	{"Lasting 1", func(a *api.Agent) { a.Lasting = 1 }, api.ErrRange},
	{"Lasting at a page's end", func(a *api.Agent) { a.Lasting = 128 }, api.ErrRange},
	{"LastCursor below 0", func(a *api.Agent) { a.LastCursor = -1 }, api.ErrRange},
	{"LastCursor above Cursor", func(a *api.Agent) { a.LastCursor = 14 }, api.ErrRange},
	{"Cursor below LastCursor", func(a *api.Agent) { a.Cursor, a.LastCursor = 0, 1 }, api.ErrRange},
	{"Cursor below 0", func(a *api.Agent) { a.Cursor = -1 }, api.ErrRange},
	{"Cursor above Filled", func(a *api.Agent) { a.Cursor = 6 }, api.ErrRange},
	{"Filled below Cursor", func(a *api.Agent) { a.Filled, a.Cursor = 0, 1 }, api.ErrRange},
	{"Filled above what is offered", func(a *api.Agent) { a.Filled = 13 }, api.ErrRange},
	{"Filled far above what is offered", func(a *api.Agent) { a.Filled = 1<<63 - 1 }, api.ErrRange},
	{"Now below 0", func(a *api.Agent) { a.Now = -1 }, api.ErrRange},
	{"Now above MaxTime", func(a *api.Agent) { a.Now = api.MaxTime + 1 }, api.ErrRange},
}

// wrongLasting.
var wrongLasting = []change{
	{"LastCursor above what lasts", func(a *api.Agent) { a.Lasting = 123 }, api.ErrState},
	{"LastCursor above nothing that lasts", func(a *api.Agent) { a.Lasting = 0 }, api.ErrState},
}

// wrongShards, in the order in which they are told.
var wrongShards = []change{
	{"numbers of a shard", func(a *api.Agent) { first(a).Batch = 0 }, api.ErrRange},
	{"a First above Most", func(a *api.Agent) { first(a).First = 41 }, api.ErrRange},
	{"too much waits", func(a *api.Agent) { first(a).Items = make([]api.Item, 4) }, api.ErrMany},
	{"labels of what waits", func(a *api.Agent) { first(a).Items = []api.Item{{Labels: of("1", "x")}} }, api.ErrForm},
	{"what waits falls", func(a *api.Agent) { first(a).Items = []api.Item{waiting(4, "e", 7), waiting(4, "e", 7)} }, api.ErrState},
	{"numbers of another shard", func(a *api.Agent) { last(a).Room = 101 }, api.ErrRange},
	{"Waits of another shard", func(a *api.Agent) { last(a).Waits = 6 }, api.ErrRange},
	{"too much waits in another shard", func(a *api.Agent) { last(a).Items = make([]api.Item, 3) }, api.ErrMany},
}

// wrongWaiting: shards that are right by themselves.
var wrongWaiting = []change{
	{"the one by the number Cursor does not wait", func(a *api.Agent) { last(a).Items = []api.Item{waiting(3, "d", 7)} }, api.ErrState},
	{"nothing waits", func(a *api.Agent) { first(a).Items, last(a).Items = nil, nil }, api.ErrState},
	{"one below Cursor", func(a *api.Agent) { first(a).Items = []api.Item{waiting(0, "a", 7)} }, api.ErrState},
	{"one by the number Filled", func(a *api.Agent) { last(a).Items = []api.Item{waiting(1, "b", 7), waiting(5, "f", 7)} }, api.ErrState},
	{"one above all that are offered", func(a *api.Agent) { last(a).Items = []api.Item{waiting(1, "b", 7), waiting(1<<63-1, "f", 7)} }, api.ErrState},
	{"one in the wrong shard", func(a *api.Agent) { first(a).Items = []api.Item{waiting(3, "d", 7), waiting(4, "e", 7)} }, api.ErrState},
	{"one in the wrong shard alone", func(a *api.Agent) {
		first(a).Items, last(a).Items = nil, []api.Item{waiting(1, "b", 7), waiting(4, "e", 7)}
	}, api.ErrState},
	{"all in the wrong shard", func(a *api.Agent) { a.Shards[0].Items, last(a).Items = last(a).Items, first(a).Items }, api.ErrState},
	{"another name", func(a *api.Agent) { first(a).Items = []api.Item{waiting(4, "c", 7)} }, api.ErrState},
	{"another value", func(a *api.Agent) { first(a).Items[0].Labels[1].Value = "l" }, api.ErrState},
	{"one label less", func(a *api.Agent) { first(a).Items[0].Labels = of("__name__", "e") }, api.ErrState},
	{"no labels", func(a *api.Agent) { first(a).Items[0].Labels = nil }, api.ErrState},
	{"another time", func(a *api.Agent) { first(a).Items = []api.Item{waiting(4, "e", 8)} }, api.ErrState},
	{"other bits", func(a *api.Agent) { first(a).Items[0].Sample.Bits++ }, api.ErrState},
	{"Filled behind what waits", func(a *api.Agent) { a.Filled = 4 }, api.ErrState},
	{"Cursor behind what waits", func(a *api.Agent) { a.Cursor = 2 }, api.ErrState},
	{"Cursor ahead of what waits", func(a *api.Agent) { a.Cursor, a.LastCursor = 0, 0 }, api.ErrState},
	{"Cursor behind all that wait", func(a *api.Agent) { a.Cursor = 5 }, api.ErrState},
}

// wrongStores.
var wrongStores = []change{
	{"too much is stored", func(a *api.Agent) { a.Store = make([]api.Series, 501) }, api.ErrMany},
	{"labels of what is stored", func(a *api.Agent) { a.Store[1].Labels = of("1", "x") }, api.ErrForm},
	{"no samples", func(a *api.Agent) { a.Store[1].Samples = nil }, api.ErrRange},
	{"what is stored falls", func(a *api.Agent) { slices.Reverse(a.Store) }, api.ErrState},
}

// wrongAll: what may be wrong, by groups, in the order in which these are told.
func wrongAll() [][]change {
	return [][]change{wrongWatches, wrongHead[:2], wrongHead[2:], wrongNumbers, wrongLasting, wrongShards, wrongWaiting, wrongStores}
}

// first and last shard, if there is one; else one that is nowhere.
func first(a *api.Agent) *api.Shard {
	if len(a.Shards) == 0 {
		return &api.Shard{Items: make([]api.Item, 1)}
	}
	return &a.Shards[0]
}

func last(a *api.Agent) *api.Shard {
	if len(a.Shards) < 2 {
		return first(a)
	}
	return &a.Shards[1]
}

func appended(s, text string) string {
	s, e := log.Append(s, text)
	if e != api.OK {
		panic(e)
	}
	return s
}

// wrong: Check, Offered and Step must say so, whatever the event is.
func wrong(t *testing.T, what string, a api.Agent, want api.Errno) {
	t.Helper()
	if e := agent.Check(a); e != want {
		t.Errorf("%s: it is %d, not %d", what, e, want)
	}
	if l, e := agent.Offered(a); len(l) != 0 || e != want {
		t.Errorf("%s: offered are %v %d, not %d", what, l, e, want)
	}
	for _, x := range []api.Event{tells(0, "up 1"), tells(2, ""), sync(), fill(), send(0, api.FateDone), send(9, 9), tick(1), tick(-1), crash(0), crash(-1), {}, {Kind: 7}} {
		if b, e := agent.Step(a, x); !same(b, api.Agent{}) || e != want {
			t.Errorf("%s: %v: it is %v %d, not %d", what, x, b, e, want)
		}
	}
}

// M2: what is wrong with an agent; Step and Offered tell it ahead of all.
func TestCheckWrong(t *testing.T) {
	wrong(t, "the agent of nothing", api.Agent{}, api.ErrRange)
	for _, group := range wrongAll() {
		for _, c := range group {
			a := busy(t)
			c.do(&a)
			wrong(t, c.what, a, c.want)
		}
	}
}

// both changes of an agent: the first one must be told.
func both(t *testing.T, a api.Agent, c, d change) {
	t.Helper()
	a = deep(a)
	d.do(&a)
	c.do(&a)
	if e := agent.Check(a); e != c.want {
		t.Errorf("%s, and %s: it is %d, not %d", c.what, d.what, e, c.want)
	}
}

// M2: of more than one thing that is wrong the one that is named first is told; watches, and shards, are checked one by one.
func TestCheckFirst(t *testing.T) {
	a, groups := busy(t), wrongAll()
	for i, group := range groups {
		for _, c := range group {
			for _, d := range slices.Concat(groups[i+1:]...) {
				both(t, a, c, d)
			}
		}
	}
	for _, group := range [][]change{wrongWatches, wrongShards} {
		for i, c := range group {
			for _, d := range group[i+1:] {
				both(t, a, c, d)
			}
		}
	}
}

// M2: what is right, though it is unlike what steps make.
func TestCheckRight(t *testing.T) {
	was := busy(t)
	for _, c := range []change{
		{"as it is", func(a *api.Agent) {}, 0},
		{"less waits", func(a *api.Agent) { first(a).Items = nil }, 0},
		{"just the one by the number Cursor waits", func(a *api.Agent) { first(a).Items, last(a).Items = nil, []api.Item{waiting(1, "b", 7)} }, 0},
		{"all is sent", func(a *api.Agent) { a.Cursor, first(a).Items, last(a).Items = 5, nil, nil }, 0},
		{"nothing is sent, or filled", func(a *api.Agent) {
			a.Cursor, a.LastCursor, a.Filled, first(a).Items, last(a).Items = 0, 0, 0, nil, nil
		}, 0},
		{"more is filled than lasts", func(a *api.Agent) { a.Filled, a.Cursor, first(a).Items, last(a).Items = 12, 12, nil, nil }, 0},
		{"all waits that may", func(a *api.Agent) {
			a.Cursor, first(a).Items = 1, []api.Item{waiting(2, "c", 7), waiting(4, "e", 7)}
		}, 0},
		{"nothing lasts", func(a *api.Agent) { a.Lasting, a.LastCursor = 0, 0 }, 0},
		{"the series last", func(a *api.Agent) { a.Lasting, a.LastCursor = 123, 0 }, 0},
		{"all lasts", func(a *api.Agent) { a.Lasting = len(a.Log) }, 0},
		{"as many last as LastCursor says", func(a *api.Agent) {
			a.Cursor, a.LastCursor, a.Filled, first(a).Items, last(a).Items = 6, 6, 6, nil, nil
		}, 0},
		{"no watches", func(a *api.Agent) { a.Watches = nil }, 0},
		{"as many watches as may be", func(a *api.Agent) { a.Watches = append(a.Watches, make([]api.Watch, 98)...) }, 0},
		{"other series were seen", func(a *api.Agent) { a.Watches[1].Seen = [][]api.Label{of("x", "x"), of("y", "y")} }, 0},
		{"nothing is stored", func(a *api.Agent) { a.Store = nil }, 0},
		{"what is stored was never offered", func(a *api.Agent) {
			a.Store = []api.Series{{Labels: of("x", "x"), Samples: []api.Sample{{Time: -5, Bits: 1}}}}
		}, 0},
		{"the last time there is", func(a *api.Agent) { a.Now = api.MaxTime }, 0},
		{"time 0", func(a *api.Agent) { a.Now = 0 }, 0},
		{"shards wait", func(a *api.Agent) { first(a).Waits, first(a).Till = 40, api.MaxTime }, 0},
	} {
		a := deep(was)
		c.do(&a)
		if e := agent.Check(a); e != api.OK {
			t.Errorf("%s: it is %d", c.what, e)
		}
		if b, e := agent.Step(a, tick(0)); !same(a, b) || e != api.OK {
			t.Errorf("%s: it is %v %d, not %v", c.what, b, e, a)
		}
	}
	eight := was
	for eight.Shards = nil; len(eight.Shards) < 8; {
		eight.Shards = append(eight.Shards, shards()[0])
	}
	eight.Cursor = eight.Filled
	if e := agent.Check(eight); e != api.OK {
		t.Errorf("eight shards: it is %d", e)
	}
}

// M2: records end where they end, also in logs that no Append makes.
func TestCheckEnds(t *testing.T) {
	first, second := "\x01\x01\x05\x01\x01a\x01x", "\x02\x02\x05\x02\x01\x00\x00\x00\x00\x00\x00\x00\x05\x01\x02\x00\x00\x00\x00\x00\x00\x00"
	s := part(api.PartFirst, first[:3]) + part(api.PartNext, "") + part(api.PartLast, first[3:]) + part(api.PartWhole, second) + part(api.PartWhole, "\x02\x00")
	ends := map[int]int{0: 0, 29: 0, 58: 2, 67: 2}
	if len(s) != 67 {
		t.Fatalf("it has %d bytes", len(s))
	}
	for n := -1; n <= len(s)+1; n++ {
		for cursor := range 4 {
			a := api.Agent{Shards: shards(), Log: s, Lasting: n, LastCursor: cursor, Cursor: cursor, Filled: cursor}
			want := api.ErrRange
			if lasts, ends := ends[n]; ends && cursor <= lasts {
				want = api.OK
			} else if ends && cursor <= 2 {
				want = api.ErrState
			}
			if e := agent.Check(a); e != want {
				t.Errorf("%d, %d: it is %d, not %d", n, cursor, e, want)
			}
		}
	}
}
