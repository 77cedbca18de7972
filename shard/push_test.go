package shard_test

import (
	"hash/fnv"
	"strconv"
	"strings"
	"testing"

	"gleaner/api"
	"gleaner/shard"
)

// is: labels must be in this shard.
func is(t *testing.T, l []api.Label, shards, want int) {
	t.Helper()
	if n, e := shard.Which(l, shards); n != want || e != api.OK {
		t.Errorf("%v of %d: it is %d %d, not %d", l, shards, n, e, want)
	}
}

// K2: the remainder of the sum, by the library's one of the same kind.
func TestWhich(t *testing.T) {
	all := [][]api.Label{nil, {}, of("a", "x"), of("a", "x", "b", "y"), of("__name__", "up", "job", "j"), many(20, strings.Repeat("v", 100)), of("a", "\xff\x00\n")}
	for i := range 100 {
		all = append(all, of("n", strconv.Itoa(i)))
	}
	met := map[int]int{}
	for _, l := range all {
		sum := fnv.New64a()
		for _, x := range l {
			sum.Write([]byte(x.Name + "\xff" + x.Value + "\xff"))
		}
		for shards := 1; shards <= 8; shards++ {
			want := int(sum.Sum64() % uint64(shards))
			is(t, l, shards, want)
			met[10*shards+want]++
		}
	}
	if len(met) != 36 {
		t.Errorf("not every shard is met: %v", met)
	}
}

// K2: errors, in their order.
func TestWhichErrors(t *testing.T) {
	wrongLabels := []struct {
		l    []api.Label
		want api.Errno
	}{
		{of("1", "x"), api.ErrForm},
		{of("a", ""), api.ErrForm},
		{of("a", strings.Repeat("v", 101)), api.ErrMany},
		{many(21, "v"), api.ErrMany},
		{of("a", "x", "a", "y"), api.ErrTwice},
		{of("b", "x", "a", "x"), api.ErrState},
	}
	fails := func(l []api.Label, shards int, want api.Errno) {
		if n, e := shard.Which(l, shards); n != 0 || e != want {
			t.Errorf("%v of %d: it is %d %d, not %d", l, shards, n, e, want)
		}
	}
	for _, shards := range []int{0, -1, 9, 1000, 1<<63 - 1, -1 << 63} {
		fails(of("a", "x"), shards, api.ErrRange)
		fails(nil, shards, api.ErrRange)
		for _, c := range wrongLabels {
			fails(c.l, shards, api.ErrRange)
		}
	}
	for _, c := range wrongLabels {
		for shards := 1; shards <= 8; shards++ {
			fails(c.l, shards, c.want)
		}
	}
}

// refusesPush: this must be the error, and no shard comes (P1).
func refusesPush(t *testing.T, s api.Shard, x api.Item, want api.Errno) {
	t.Helper()
	if y, e := shard.Push(s, x); !same(y, api.Shard{}) || e != want {
		t.Errorf("%v behind %v: it is %v %d, not %d", x, s, y, e, want)
	}
}

// pushed: the shard that must come of it.
func pushed(t *testing.T, s api.Shard, x api.Item) api.Shard {
	t.Helper()
	want := s
	want.Items = append(append([]api.Item(nil), s.Items...), x)
	y, e := shard.Push(s, x)
	if !same(y, want) || e != api.OK {
		t.Errorf("%v behind %v: it is %v %d, not %v", x, s, y, e, want)
	}
	return y
}

// K2: one more waits, behind all; all else stays.
func TestPush(t *testing.T) {
	s := with()
	s.Waits, s.Till = 20, 77
	for _, x := range []api.Item{item(0, "a", "x"), item(1, "a", "x"), item(7), {Number: 8, Labels: many(20, strings.Repeat("v", 100)), Sample: api.Sample{Time: -api.MaxTime, Bits: api.BitsStale}}, {Number: 1<<63 - 1, Sample: api.Sample{Time: api.MaxTime, Bits: 1<<64 - 1}}} {
		s = pushed(t, s, x)
	}
	full := api.Shard{Batch: 200, Room: 100, First: 1, Most: 1}
	for _, x := range items(100) {
		full = pushed(t, full, x)
	}
	refusesPush(t, full, item(100), api.ErrMany)
	pushed(t, api.Shard{Batch: 1, Room: 1, First: 1, Most: 1}, item(50))
}

// K2: errors, in their order.
func TestPushErrors(t *testing.T) {
	some, full := with(item(3), item(5)), marred(func(s *api.Shard) { s.Room = 2 })
	for _, c := range wrongItems {
		refusesPush(t, with(), c.x, c.want)
		refusesPush(t, some, c.x, c.want)
		refusesPush(t, with(item(1000)), c.x, c.want)
		refusesPush(t, full, c.x, c.want)
	}
	for n := range 6 {
		refusesPush(t, some, item(n, "a", "x"), api.ErrState)
		refusesPush(t, full, item(n, "a", "x"), api.ErrState)
	}
	for n := 6; n < 9; n++ {
		pushed(t, some, item(n, "a", "x"))
		refusesPush(t, full, item(n, "a", "x"), api.ErrMany)
	}
	refusesPush(t, with(api.Item{Number: 1<<63 - 1}), api.Item{Number: 1<<63 - 1}, api.ErrState)
	refusesPush(t, with(item(0)), item(0), api.ErrState)
}
