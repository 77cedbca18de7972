package agent_test

import (
	"testing"

	"gleaner/agent"
	"gleaner/api"
)

// M4: all that are offered, what does not last, and what was sent, too.
func TestOffered(t *testing.T) {
	a := behind(t, busy(t), tells(1, "e 1 5\na 1"), sync(), tick(1), silent(1))
	stale := func(n int, job, name string, time int) api.Item {
		return api.Item{Number: n, Labels: of("__name__", name, "job", job), Sample: api.Sample{Time: time, Bits: api.BitsStale}}
	}
	two := func(n int, name string, time int) api.Item {
		x := waiting(n, name, time)
		x.Sample.Bits = 0x4000000000000000
		return x
	}
	ofK := func(n int, name string, time int) api.Item {
		x := waiting(n, name, time)
		x.Labels[1].Value = "k"
		return x
	}
	want := []api.Item{
		waiting(0, "a", 7), waiting(1, "b", 7), waiting(2, "c", 7), waiting(3, "d", 7), waiting(4, "e", 7), waiting(5, "f", 7),
		two(6, "a", 10), two(7, "b", 10), stale(8, "j", "c", 10), stale(9, "j", "d", 10), stale(10, "j", "e", 10), stale(11, "j", "f", 10),
		ofK(12, "e", 5), ofK(13, "a", 10), stale(14, "k", "a", 11), stale(15, "k", "e", 11),
	}
	l, e := agent.Offered(a)
	if !sameItems(l, want) || e != api.OK {
		t.Errorf("it is %v %d, not %v", l, e, want)
	}
	// What a crash takes is offered no more.
	l, e = agent.Offered(behind(t, a, crash(1)))
	if !sameItems(l, want[:14]) || e != api.OK {
		t.Errorf("then it is %v %d, not %v", l, e, want[:14])
	}
	if l, e = agent.Offered(made(t, shards())); len(l) != 0 || e != api.OK {
		t.Errorf("of a new agent it is %v %d", l, e)
	}
}

// M2 and M4: samples come in the order in which records, and these, have them, whatever their times and refs are.
func TestOfferedOrder(t *testing.T) {
	x, y := of("a", "x"), of("a", "y", "b", "z")
	s := logged(t, "", series(api.Ref{Ref: 900, Labels: x}), samples(point(900, 5, 1), point(900, -5, 2), point(900, 5, 3)), series(), samples(),
		series(api.Ref{Ref: 7, Labels: y}, api.Ref{Ref: 900, Labels: x}), samples(point(7, 1, 4), point(900, -api.MaxTime, 5), point(7, api.MaxTime, 6)))
	item := func(n int, l []api.Label, time int, bits uint64) api.Item {
		return api.Item{Number: n, Labels: l, Sample: api.Sample{Time: time, Bits: bits}}
	}
	want := []api.Item{item(0, x, 5, 1), item(1, x, -5, 2), item(2, x, 5, 3), item(3, y, 1, 4), item(4, x, -api.MaxTime, 5), item(5, y, api.MaxTime, 6)}
	a := made(t, []api.Shard{{Batch: 9, Room: 9, First: 1, Most: 1}})
	a.Log = s
	if l, e := agent.Offered(a); !sameItems(l, want) || e != api.OK {
		t.Errorf("it is %v %d, not %v", l, e, want)
	}
	b := behind(t, a, sync(), fill(), send(0, api.FateDone))
	if !sameStore(b.Store, []api.Series{
		{Labels: x, Samples: []api.Sample{{Time: 5, Bits: 1}}},
		{Labels: y, Samples: []api.Sample{{Time: 1, Bits: 4}, {Time: api.MaxTime, Bits: 6}}},
	}) || b.Cursor != 6 {
		t.Errorf("it is %v", b)
	}
}
