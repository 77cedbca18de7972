package agent_test

import (
	"math/rand"
	"slices"
	"testing"

	"gleaner/agent"
	"gleaner/api"
	"gleaner/labels"
)

// lasting: what is offered, and lasts.
func lasting(t *testing.T, a api.Agent) []api.Item {
	t.Helper()
	all, e := agent.Offered(a)
	x, whole := asTold(a.Log)
	if e != api.OK || !whole || !sameItems(all, x.items) {
		t.Fatalf("%v: offered are %v %d", a, all, e)
	}
	return all[:x.lasting(a)]
}

// bySeries: samples of items, in their order, by the texts of their labels.
func bySeries(l []api.Item) map[string][]api.Sample {
	all := map[string][]api.Sample{}
	for _, x := range l {
		text, _ := labels.Text(x.Labels)
		all[text] = append(all[text], x.Sample)
	}
	return all
}

// holds: the store must have of each series the first samples of what is offered and lasts, in order, none twice; and all that were sent, as far as that lasts.
func holds(t *testing.T, a api.Agent) {
	t.Helper()
	all := lasting(t, a)
	of, sent := bySeries(all), bySeries(all[:a.LastCursor])
	for _, s := range a.Store {
		text, _ := labels.Text(s.Labels)
		want := of[text]
		if len(s.Samples) > len(want) || !slices.Equal(s.Samples, want[:len(s.Samples)]) {
			t.Fatalf("%v: stored are %v, offered %v", a, s, want)
		}
		if len(s.Samples) < len(sent[text]) {
			t.Fatalf("%v: stored are %v, sent %v", a, s, sent[text])
		}
		delete(sent, text)
		for i, p := range s.Samples[1:] {
			if p.Time <= s.Samples[i].Time {
				t.Fatalf("%v: of %v one is not later", a, s)
			}
		}
	}
	if len(sent) > 0 {
		t.Fatalf("%v: %v are not stored", a, sent)
	}
}

// all that is offered must come to the store, if it is synced, filled, sent, and time goes: by any fates, if only now and then an answer comes.
func arrives(t *testing.T, r *rand.Rand, a api.Agent) {
	t.Helper()
	a = behind(t, a, sync())
	want := lasting(t, a)
	for turn := 0; a.Cursor < len(want); turn++ {
		if turn > 10*len(want)+10 {
			t.Fatalf("%v: it does not come there", a)
		}
		a = behind(t, a, fill())
		for i, s := range a.Shards {
			if len(s.Items) == 0 {
				continue
			}
			if s.Till > a.Now {
				a = behind(t, a, tick(s.Till-a.Now))
			}
			a = behind(t, a, send(i, pick(r, 1, 1, 2, 3, 4)))
			holds(t, a)
		}
	}
	stored := map[string][]api.Sample{}
	for _, s := range a.Store {
		text, _ := labels.Text(s.Labels)
		stored[text] = s.Samples
	}
	all := bySeries(want)
	if len(stored) != len(all) {
		t.Fatalf("%v: stored are %v, not %v", a, stored, all)
	}
	for text, l := range all {
		if !slices.Equal(stored[text], l) {
			t.Fatalf("%v: stored are %v, not %v", a, stored, all)
		}
	}
}

// M5, and what the whole promises: whatever gets lost, comes twice or crashes, the store has of each series the first samples of what is offered and lasts, in order, none twice; what lasts is never lost; and all of it comes there.
func TestWhole(t *testing.T) {
	r := rand.New(rand.NewSource(2))
	crashes, stored := 0, 0
	for range 90 {
		a := someNew(t, r)
		var was []api.Item
		for range 130 {
			e := some(r, a)
			b, wrong := agent.Step(a, e)
			if wrong != api.OK {
				continue
			}
			if e := agent.Check(b); e != api.OK {
				t.Fatalf("%v: it is %d", b, e)
			}
			holds(t, b)
			now := lasting(t, b)
			if len(now) < len(was) || !sameItems(now[:len(was)], was) {
				t.Fatalf("%v behind %v: what lasted were %v, and are %v", e, a, was, now)
			}
			if e.Kind == api.EventCrash && len(a.Log) > len(b.Log) {
				crashes++
			}
			a, was = b, now
		}
		arrives(t, r, a)
		stored += len(was)
	}
	if crashes < 100 || stored < 1000 {
		t.Errorf("%d crashes, %d stored", crashes, stored)
	}
}

// A scrape, a sync, a fill and a send: the store has one series; and, whatever happens then, no more than that.
func TestWholeShort(t *testing.T) {
	a := behind(t, made(t, []api.Shard{{Batch: 2, Room: 10, First: 10, Most: 35}}, target("job", "j")), tells(0, "up 1\n"), sync(), fill(), send(0, api.FateMute))
	want := []api.Series{stored("up", 0)}
	if !sameStore(a.Store, want) || a.Shards[0].Till != 10 || a.Cursor != 0 {
		t.Errorf("it is %v", a)
	}
	a = behind(t, a, tick(10), crash(1000), fill())
	if !sameItems(a.Shards[0].Items, []api.Item{waiting(0, "up", 0)}) {
		t.Errorf("then it is %v", a)
	}
	a = behind(t, a, send(0, api.FateDone))
	if !sameStore(a.Store, want) || a.Cursor != 1 || a.Now != 10 {
		t.Errorf("in the end it is %v", a)
	}
}

// M5: what was sent, but not answered, or not synced ahead of a crash, is sent again, and is there once.
func TestWholeAgain(t *testing.T) {
	a := behind(t, made(t, shards(), target("job", "j")), tells(0, "a 1\nb 1\nc 1"), tick(1), tells(0, "a 1\nb 1\nc 1"), sync(), fill())
	for range 3 {
		a = behind(t, a, fill(), send(0, api.FateMute), send(1, api.FateTwice), crash(0), fill(), send(0, api.FateDone), crash(5))
		if a.Cursor != 0 || a.Filled != 0 || len(lasting(t, a)) != 6 {
			t.Fatalf("it is %v", a)
		}
		holds(t, a)
	}
	if !sameStore(a.Store, []api.Series{stored("a", 0), stored("b", 0), stored("c", 0)}) {
		t.Errorf("stored are %v", a.Store)
	}
	arrives(t, rand.New(rand.NewSource(3)), a)
	// A crash right behind a sync takes nothing of what was scraped by then, and not what was sent.
	a = behind(t, a, fill(), send(0, api.FateDone), send(1, api.FateDone), fill(), send(1, api.FateDone), send(0, api.FateDone), tick(1), tells(0, "a 1"), sync(), crash(1000))
	if a.Cursor != 6 || a.Filled != 6 || len(lasting(t, a)) != 7 {
		t.Errorf("it is %v", a)
	}
	holds(t, a)
	arrives(t, rand.New(rand.NewSource(4)), a)
}

// P1: whatever is handed in is answered, and what has an error comes with no agent. P3: by the same, each time.
func TestAnything(t *testing.T) {
	r := rand.New(rand.NewSource(5))
	number := func() int {
		return pick(r, 0, 1, -1, 2, r.Intn(300), api.MaxTime, api.MaxTime+1, 1<<63-1, -1<<63, int(r.Uint64()))
	}
	someLabels := func() []api.Label {
		return pick(r, nil, of("a", "x"), of("b", "x", "a", "x"), of("1", "x"), of("a", ""), of("__name__", "a", "job", "j"), many(21, "v"))
	}
	for range 3000 {
		a := behind(t, someNew(t, r), tick(3), sync())
		for range r.Intn(4) {
			if b, e := agent.Step(a, some(r, a)); e == api.OK {
				a = b
			}
		}
		text := make([]byte, r.Intn(50))
		r.Read(text)
		for range r.Intn(3) {
			switch r.Intn(6) {
			case 0:
				*pick(r, &a.Lasting, &a.Cursor, &a.LastCursor, &a.Filled, &a.Now) = number()
			case 1:
				a.Log += pick(r, string(text), part(byte(r.Intn(6)), string(text)))
			case 2:
				a.Shards = append(a.Shards, api.Shard{Batch: number(), Room: number(), First: number(), Most: number(), Waits: number(), Till: number()})
			case 3:
				a.Shards = append(a.Shards, api.Shard{Items: []api.Item{{Number: number(), Labels: someLabels(), Sample: api.Sample{Time: number()}}}, Batch: 1, Room: 1, First: 1, Most: 1})
			case 4:
				a.Watches = append(a.Watches, api.Watch{Target: api.Target{Labels: someLabels()}, Seen: [][]api.Label{someLabels(), someLabels()}})
			case 5:
				a.Store = append(a.Store, api.Series{Labels: someLabels(), Samples: []api.Sample{{Time: number()}}})
			}
		}
		e := api.Event{Kind: 1 + r.Intn(7), Which: pick(r, 0, 1, number()), N: pick(r, 0, 5, number()), Fate: pick(r, 1, 2, 3, 4, number()), Scrape: someScrape(r, a.Now)}
		e.Scrape.Body += pick(r, "", "", string(text))
		if r.Intn(10) == 0 {
			e.Scrape.Limits.Readings, e.Scrape.Rules = number(), append(e.Scrape.Rules, api.Rule{Kind: number(), Mask: string(text)})
		}
		checkAnswers(t, a, e)
	}
}

// checkAnswers: of all calls, twice.
func checkAnswers(t *testing.T, a api.Agent, e api.Event) {
	t.Helper()
	wrong := agent.Check(a)
	b, f := agent.Step(a, e)
	l, g := agent.Offered(a)
	var targets []api.Target
	for _, w := range a.Watches {
		targets = append(targets, w.Target)
	}
	c, h := agent.New(targets, a.Shards)
	if g != wrong || g != api.OK && len(l) > 0 || wrong != api.OK && f != wrong || f != api.OK && !same(b, api.Agent{}) || h != api.OK && !same(c, api.Agent{}) {
		t.Fatalf("%v, %v: it is %d, %v %d, %v %d, %v %d", a, e, wrong, b, f, l, g, c, h)
	}
	if f == api.OK && agent.Check(b) != api.OK || h == api.OK && agent.Check(c) != api.OK {
		t.Fatalf("%v, %v: what comes is not right: %v, %v", a, e, b, c)
	}
	b2, f2 := agent.Step(a, e)
	l2, g2 := agent.Offered(a)
	c2, h2 := agent.New(targets, a.Shards)
	if agent.Check(a) != wrong || !same(b, b2) || f != f2 || !sameItems(l, l2) || g != g2 || !same(c, c2) || h != h2 {
		t.Fatalf("%v, %v: then it is %v %d, %v %d, %v %d", a, e, b2, f2, l2, g2, c2, h2)
	}
}
