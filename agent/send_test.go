package agent_test

import (
	"strings"
	"testing"

	"gleaner/agent"
	"gleaner/api"
	"gleaner/shard"
	"gleaner/take"
)

// stored: series of job j, each with its samples' times.
func stored(name string, times ...int) api.Series {
	s := api.Series{Labels: of("__name__", name, "job", "j")}
	for _, n := range times {
		s.Samples = append(s.Samples, api.Sample{Time: n, Bits: oneBits})
	}
	return s
}

// M3: what becomes of what is sent, by its fate.
func TestStepSend(t *testing.T) {
	a := behind(t, made(t, shards(), target("job", "j")), tick(100), tells(0, "a 1\nb 1\nc 1\nd 1\ne 1\nf 1"), sync(), fill())
	for _, fate := range []int{api.FateDone, api.FateTwice} {
		want := a
		want.Shards = deep(a).Shards
		want.Shards[0].Items = []api.Item{waiting(4, "e", 100)}
		want.Store = []api.Series{stored("a", 100), stored("c", 100)}
		want.Cursor = 1
		steps(t, a, send(0, fate), want)
		want.Shards = deep(a).Shards
		want.Shards[1].Items = []api.Item{waiting(3, "d", 100)}
		want.Store = []api.Series{stored("b", 100)}
		want.Cursor = 0
		steps(t, a, send(1, fate), want)
	}
	want := a
	want.Shards = deep(a).Shards
	want.Shards[0].Waits, want.Shards[0].Till = 10, 110
	steps(t, a, send(0, api.FateLost), want)
	want.Store = []api.Series{stored("a", 100), stored("c", 100)}
	steps(t, a, send(0, api.FateMute), want)
	want.Shards = deep(a).Shards
	want.Shards[1].Waits, want.Shards[1].Till = 5, 105
	want.Store = nil
	steps(t, a, send(1, api.FateLost), want)
	want.Store = []api.Series{stored("b", 100)}
	steps(t, a, send(1, api.FateMute), want)
}

// M3: the cursor is the least number that waits in a shard, or Filled.
func TestStepSendCursor(t *testing.T) {
	a := behind(t, made(t, shards(), target("job", "j")), tells(0, "a 1\nb 1\nc 1\nd 1\ne 1"), sync(), fill())
	for i, c := range []struct{ which, fate, cursor int }{
		{1, api.FateDone, 0}, {0, api.FateLost, 0}, {1, api.FateDone, 0}, {0, api.FateMute, 0}, {0, api.FateTwice, 4}, {0, api.FateMute, 4}, {0, api.FateDone, 5},
	} {
		a = behind(t, a, tick(100), send(c.which, c.fate))
		if a.Cursor != c.cursor || a.LastCursor != 0 || a.Filled != 5 {
			t.Errorf("%d: it is %v", i, a)
		}
	}
	if !sameStore(a.Store, []api.Series{stored("a", 0), stored("b", 0), stored("c", 0), stored("d", 0), stored("e", 0)}) {
		t.Errorf("stored are %v", a.Store)
	}
	// What is filled need not be all that lasts.
	a = behind(t, made(t, []api.Shard{{Batch: 2, Room: 2, First: 1, Most: 1}}, target("job", "j")), tells(0, "a 1\nb 1\nc 1"), sync(), fill(), send(0, api.FateDone))
	if a.Cursor != 2 || a.Filled != 2 {
		t.Errorf("it is %v", a)
	}
}

// M3: how long a shard waits behind what failed; and that it waits no more behind what did not.
func TestStepSendWaits(t *testing.T) {
	a := behind(t, made(t, shards(), target("job", "j")), tells(0, "a 1\nb 1\nc 1\nd 1\ne 1"), sync(), fill(), tick(1000))
	for i, waits := range []int{10, 20, 40, 40, 40} {
		a = behind(t, a, send(0, []int{api.FateMute, api.FateLost}[i%2]))
		if s := a.Shards[0]; s.Waits != waits || s.Till != a.Now+waits || len(s.Items) != 3 || len(a.Store) != 2 {
			t.Errorf("%d: it is %v", i, a)
		}
		a = behind(t, a, tick(waits-1))
		for fate := range 5 {
			want := api.ErrState
			if fate == 0 {
				want = api.ErrKind
			}
			refuses(t, a, send(0, fate), want)
		}
		a = behind(t, a, tick(1))
	}
	a = behind(t, a, send(0, api.FateDone))
	if s := a.Shards[0]; s.Waits != 0 || s.Till != 0 || len(s.Items) != 1 {
		t.Errorf("then it is %v", a)
	}
	a = behind(t, a, send(0, api.FateLost))
	if s := a.Shards[0]; s.Waits != 10 || s.Till != a.Now+10 {
		t.Errorf("then it is %v", a)
	}
}

// M3: the errors of sending, in their order.
func TestStepSendWrong(t *testing.T) {
	a := behind(t, made(t, shards(), target("job", "j")), tells(0, "a 1\nc 1"), sync(), fill())
	for _, which := range []int{-1, 2, 8, 1<<63 - 1, -1 << 63} {
		for _, fate := range []int{1, 2, 3, 4, 0, 9} {
			refuses(t, a, send(which, fate), api.ErrNone)
		}
	}
	mute := behind(t, a, send(0, api.FateMute))
	late := a
	late.Shards = deep(a).Shards
	late.Shards[1].Till = 1
	for _, fate := range []int{0, -1, 5, 1<<63 - 1, -1 << 63} {
		for which := range 2 {
			refuses(t, a, send(which, fate), api.ErrKind)
			refuses(t, mute, send(which, fate), api.ErrKind)
			refuses(t, late, send(which, fate), api.ErrKind)
		}
	}
	for fate := 1; fate <= 4; fate++ {
		refuses(t, mute, send(0, fate), api.ErrState)
		refuses(t, late, send(1, fate), api.ErrState)
		refuses(t, a, send(1, fate), api.ErrNone)
		refuses(t, made(t, shards()), send(0, fate), api.ErrNone)
	}
}

// lots: a store of as many series, and of as many samples in one of them.
func lots(series, samples int) []api.Series {
	var l []api.Series
	for i := range series {
		l = append(l, api.Series{Labels: of("__name__", "a", "job", "j", "z", strings.Repeat("v", 1+i%50)+strings.Repeat("w", i/50)), Samples: []api.Sample{{}}})
	}
	one := stored("b")
	for i := range samples {
		one.Samples = append(one.Samples, api.Sample{Time: i - samples})
	}
	if samples > 0 {
		l = append(l, one)
	}
	return sorted(l)
}

// M3: a store that would have too much.
func TestStepSendMany(t *testing.T) {
	a := behind(t, made(t, []api.Shard{{Batch: 9, Room: 9, First: 1, Most: 1}}, target("job", "j")), tells(0, "b 1"), sync(), fill())
	for _, c := range []struct {
		store []api.Series
		want  api.Errno
	}{
		{lots(500, 0), api.ErrMany},
		{lots(499, 0), api.OK},
		{lots(499, 1), api.OK},
		{lots(3, 5000), api.ErrMany},
		{lots(3, 4999), api.OK},
	} {
		a.Store = c.store
		if e := agent.Check(a); e != api.OK {
			t.Fatalf("%d series: it is %d", len(c.store), e)
		}
		for _, fate := range []int{api.FateDone, api.FateMute, api.FateTwice} {
			b, e := agent.Step(a, send(0, fate))
			if e != c.want {
				t.Errorf("%d series, fate %d: it is %d, not %d", len(c.store), fate, e, c.want)
			}
			if e != api.OK {
				refuses(t, a, send(0, fate), c.want)
				continue
			}
			_, text, _ := shard.Next(a.Shards[0], 0)
			if want, _, _ := take.Take(a.Store, text); !sameStore(b.Store, want) {
				t.Errorf("%d series, fate %d: it is not as it was taken", len(c.store), fate)
			}
		}
		// What does not come there is not too much.
		want := a
		want.Shards = deep(a).Shards
		want.Shards[0].Waits, want.Shards[0].Till = 1, 1
		steps(t, a, send(0, api.FateLost), want)
	}
}

// M3: what goes at once is what Next tells: Batch, or, if that is too long, half as many, and so on.
func TestStepSendLong(t *testing.T) {
	a := made(t, []api.Shard{{Batch: 50, Room: 50, First: 1, Most: 1}})
	for i := range 40 {
		l := append(many(19, strings.Repeat("v", 100)), api.Label{Name: "z", Value: strings.Repeat("w", 1+i)})
		a.Log = logged(t, a.Log, series(api.Ref{Ref: i + 1, Labels: l}), samples(point(i+1, i, uint64(i))))
	}
	a = behind(t, a, sync(), fill())
	gone := 0
	// Nine fit into a text, ten do not.
	for _, n := range []int{5, 8, 6, 5, 8, 8} {
		a = behind(t, a, send(0, api.FateDone))
		if gone += n; a.Cursor != gone || len(a.Shards[0].Items) != 40-gone || len(a.Store) != gone {
			t.Errorf("behind %d: the cursor is %d, %d wait, %d are stored", gone, a.Cursor, len(a.Shards[0].Items), len(a.Store))
		}
	}
	refuses(t, a, send(0, api.FateDone), api.ErrNone)
}
