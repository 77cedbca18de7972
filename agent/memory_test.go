package agent_test

import (
	"reflect"
	"testing"

	"gleaner/agent"
	"gleaner/api"
)

// crowded: an agent in which there is something everywhere; its texts have two bytes at least, for those of one byte may be anywhere.
func crowded(t *testing.T) api.Agent {
	t.Helper()
	a := behind(t, made(t, []api.Shard{{Batch: 1, Room: 9, First: 10, Most: 40}, {Batch: 1, Room: 9, First: 5, Most: 5}}, target("job", "jj"), target("job", "kk")),
		tells(0, "aa 1\nab 1\nac 1\nad 1\nae 1\naf 1"), tells(1, "aa 1\nab 1"), sync(), fill(), send(0, api.FateDone), send(1, api.FateMute), sync(), tick(50), tells(0, "aa 1\nab 1"))
	if len(a.Shards[0].Items) == 0 || len(a.Shards[1].Items) == 0 || len(a.Store) < 2 || a.Lasting == len(a.Log) {
		t.Fatalf("it is %v", a)
	}
	return a
}

// events of which each kind changes something.
func events() []api.Event {
	rules := []api.Rule{{Kind: api.RuleReplace, Sources: []string{"__name__"}, Between: ";", Mask: "(gg)", Target: "to", Replacement: "$1"}, {Kind: api.RuleReplace, Mask: ".*", Target: "other", Replacement: "whole"}}
	return []api.Event{
		scraped(0, api.Scrape{Body: "aa 2\ngg{xx=\"yy\"} 1\nhh 1", Told: true, Rules: append(rules, api.Rule{Kind: 99})[:2]}),
		tells(1, "ac 1\nad 1"), silent(0), sync(), fill(), send(0, api.FateDone), send(1, api.FateTwice), send(0, api.FateMute), send(1, api.FateLost), tick(1), crash(0), crash(1000),
	}
}

// P2: what is handed in is only read, the room behind it too; and is not kept.
func TestOnlyRead(t *testing.T) {
	was := crowded(t)
	a, kept := roomy(was), roomy(was)
	agent.Check(a)
	agent.Offered(a)
	agent.New([]api.Target{a.Watches[0].Target, a.Watches[1].Target}, a.Shards)
	for i, x := range events() {
		agent.Step(a, x)
		if !reflect.DeepEqual(grown(a), grown(kept)) {
			t.Fatalf("%v: what was handed in became %v", x, a)
		}
		if y := events()[i]; !reflect.DeepEqual(x, y) || len(x.Scrape.Rules) > 0 && !reflect.DeepEqual(x.Scrape.Rules[:3], y.Scrape.Rules[:3]) {
			t.Errorf("what was handed in became %v", x)
		}
	}
}

// P2: an agent that comes is new memory; no two lists of it share any.
func TestStepNew(t *testing.T) {
	was := crowded(t)
	for _, x := range events() {
		a, kept := roomy(was), roomy(was)
		b, e := agent.Step(a, x)
		want, _ := asStepped(was, x)
		if !same(b, want) || e != api.OK {
			t.Fatalf("%v: it is %v %d, not %v", x, b, e, want)
		}
		of := append(texts(every(a)...), x.Scrape.Body, a.Log)
		for _, r := range x.Scrape.Rules {
			of = append(append(of, r.Sources...), r.Target, r.Replacement)
		}
		for _, s := range append(texts(every(b)...), b.Log) {
			for _, y := range of {
				if lies(s, y) {
					t.Errorf("%v: the text %q is not new", x, s)
				}
			}
		}
		if overlap(b) {
			t.Errorf("%v: two lists share memory", x)
		}
		spoil(b)
		if !reflect.DeepEqual(grown(a), grown(kept)) {
			t.Errorf("%v: what was handed in became %v", x, a)
		}
		if b, _ = agent.Step(a, x); !same(b, want) {
			t.Errorf("%v: then it is %v", x, b)
		}
		spoil(a)
		if !same(b, want) {
			t.Errorf("%v: what came became %v", x, b)
		}
	}
}

// P2: of New, and of Offered.
func TestOthersNew(t *testing.T) {
	fresh := made(t, shards(), target("job", "jj"), target("job", "jj", "other", "other"))
	was, kept := roomy(fresh), roomy(fresh)
	targets := []api.Target{was.Watches[0].Target, was.Watches[1].Target}
	for range 2 {
		a, e := agent.New(targets, was.Shards)
		if !same(a, fresh) || e != api.OK {
			t.Fatalf("it is %v %d", a, e)
		}
		for _, s := range texts(every(a)...) {
			for _, y := range texts(every(was)...) {
				if lies(s, y) {
					t.Errorf("the text %q is not new", s)
				}
			}
		}
		if overlap(a) {
			t.Errorf("two lists share memory")
		}
		spoil(a)
		_ = append(a.Shards[0].Items, api.Item{Number: 77})
		if !reflect.DeepEqual(grown(was), grown(kept)) {
			t.Errorf("what was handed in became %v", was)
		}
	}
	a := crowded(t)
	want, _ := asTold(a.Log)
	for range 2 {
		l, e := agent.Offered(a)
		if !sameItems(l, want.items) || e != api.OK {
			t.Fatalf("offered are %v %d", l, e)
		}
		b := api.Agent{Shards: []api.Shard{{Items: l}}}
		for _, s := range texts(every(b)...) {
			for _, y := range append(texts(every(a)...), a.Log) {
				if lies(s, y) {
					t.Errorf("the text %q is not new", s)
				}
			}
		}
		if overlap(b) {
			t.Errorf("two lists share memory")
		}
		spoil(b)
	}
}
