package agent_test

import (
	"strings"
	"testing"

	"gleaner/agent"
	"gleaner/api"
)

// targets: as many.
func targets(n int) []api.Target { return make([]api.Target, n) }

// M1: agents that are new: nothing was seen, logged, stored, or waits.
func TestNewAgent(t *testing.T) {
	most := api.Shard{Batch: 200, Room: 100, First: 100000, Most: 100000}
	for _, c := range []struct {
		targets []api.Target
		shards  []api.Shard
	}{
		{nil, shards()},
		{[]api.Target{target("job", "j"), target("a", "x", "b", "y")}, shards()},
		{[]api.Target{{}, target("job", "j"), target("job", "j"), {Labels: many(20, strings.Repeat("v", 100))}}, shards()[:1]},
		{targets(100), []api.Shard{{Batch: 1, Room: 1, First: 1, Most: 1}}},
		{[]api.Target{}, []api.Shard{most, most, most, most, most, most, most, {Items: []api.Item{}, Batch: 1, Room: 1, First: 1, Most: 1}}},
	} {
		want := api.Agent{Shards: c.shards}
		for _, x := range c.targets {
			want.Watches = append(want.Watches, api.Watch{Target: x})
		}
		a, e := agent.New(c.targets, c.shards)
		if !same(a, want) || e != api.OK {
			t.Errorf("%v, %v: it is %v %d", c.targets, c.shards, a, e)
		}
		if e := agent.Check(a); e != api.OK {
			t.Errorf("%v, %v: what is new is not right: %d", c.targets, c.shards, e)
		}
		if l, e := agent.Offered(a); len(l) != 0 || e != api.OK {
			t.Errorf("%v, %v: it offers %v %d", c.targets, c.shards, l, e)
		}
	}
}

// fault of what New is handed, which may come together with others.
type fault struct {
	what    string
	targets []api.Target
	shards  func(l []api.Shard) []api.Shard
	want    api.Errno
}

// wrongTargets, in the order in which they are told.
var wrongTargets = []fault{
	{"too many targets", append(targets(100), target("1", "x")), nil, api.ErrMany},
	{"far too many targets", targets(1000), nil, api.ErrMany},
	{"no name", []api.Target{target("job", "j"), target("1", "x"), target("a", strings.Repeat("v", 101))}, nil, api.ErrForm},
	{"no value", []api.Target{target("a", ""), target("b", "x", "a", "x")}, nil, api.ErrForm},
	{"too long a value", []api.Target{target("a", strings.Repeat("v", 101)), target("1", "x")}, nil, api.ErrMany},
	{"too many labels", []api.Target{{Labels: many(21, "v")}}, nil, api.ErrMany},
	{"a name twice", []api.Target{target("job", "j"), target("a", "x", "a", "x")}, nil, api.ErrTwice},
	{"names fall", []api.Target{target("b", "x", "a", "x"), target("1", "x")}, nil, api.ErrState},
}

// wrongOfNew: shards that are wrong, in the order in which they are told.
var wrongOfNew = []fault{
	{"no shard", nil, func(l []api.Shard) []api.Shard { return nil }, api.ErrRange},
	{"an empty list of shards", nil, func(l []api.Shard) []api.Shard { return l[:0] }, api.ErrRange},
	{"too many shards", nil, func(l []api.Shard) []api.Shard { return append(l, l[0], l[0], l[0], l[0], l[0], l[0], l[0]) }, api.ErrRange},
	{"numbers of a shard", nil, func(l []api.Shard) []api.Shard { l[1].Batch = 0; return l }, api.ErrRange},
	{"too much waits", nil, func(l []api.Shard) []api.Shard { l[1].Items = make([]api.Item, 3); return l }, api.ErrMany},
	{"what waits is not right", nil, func(l []api.Shard) []api.Shard {
		l[1].Items = []api.Item{{Labels: of("1", "x")}}
		return l
	}, api.ErrForm},
	{"what waits falls", nil, func(l []api.Shard) []api.Shard {
		l[1].Items = []api.Item{{Number: 3}, {Number: 2}}
		return l
	}, api.ErrState},
	{"something waits", nil, func(l []api.Shard) []api.Shard { l[0].Items = []api.Item{{}}; return l }, api.ErrState},
	{"something waits in the last one", nil, func(l []api.Shard) []api.Shard {
		l[len(l)-1].Items = []api.Item{{Labels: of("a", "x")}}
		return l
	}, api.ErrState},
	{"Waits", nil, func(l []api.Shard) []api.Shard { l[0].Waits = 10; return l }, api.ErrState},
	{"Till", nil, func(l []api.Shard) []api.Shard { l[0].Till = 1; return l }, api.ErrState},
	{"Till below 0", nil, func(l []api.Shard) []api.Shard { l[len(l)-1].Till = -1; return l }, api.ErrState},
}

// M1: what is wrong is told, of more than one thing the one that is named first.
func TestNewWrong(t *testing.T) {
	right := []api.Target{target("job", "j")}
	refused := func(what string, targets []api.Target, shards []api.Shard, want api.Errno) {
		if a, e := agent.New(targets, shards); !same(a, api.Agent{}) || e != want {
			t.Errorf("%s: it is %v %d, not %d", what, a, e, want)
		}
	}
	for _, c := range wrongTargets {
		refused(c.what, c.targets, shards(), c.want)
		for _, d := range wrongOfNew {
			refused(c.what+", and "+d.what, c.targets, d.shards(shards()), c.want)
		}
	}
	for i, c := range wrongOfNew {
		refused(c.what, right, c.shards(shards()), c.want)
		refused(c.what+", and no target", nil, c.shards(shards()), c.want)
		if c.want == api.ErrState && c.what != "what waits falls" {
			continue
		}
		// These are told ahead of anything's waiting in any shard.
		for _, d := range wrongOfNew[i+1:] {
			if d.want == api.ErrState {
				refused(c.what+", behind "+d.what, right, c.shards(d.shards(shards())), c.want)
			}
		}
	}
	// Shards are checked one by one.
	refused("two wrong shards", right, []api.Shard{{Batch: 1, Room: 1, First: 1, Most: 1, Items: make([]api.Item, 2)}, {}}, api.ErrMany)
	refused("two wrong shards", right, []api.Shard{{}, {Batch: 1, Room: 1, First: 1, Most: 1, Items: make([]api.Item, 2)}}, api.ErrRange)
}
