package shard_test

import (
	"encoding/binary"
	"strings"
	"testing"

	"gleaner/api"
	"gleaner/press"
	"gleaner/shard"
	"gleaner/wire"
)

// sizeOf what items are packed to, ahead of its being made shorter: reckoned by itself.
func sizeOf(l []api.Item) int {
	number := func(n uint64) int { return len(binary.AppendUvarint(nil, n)) }
	field := func(size int) int { return 1 + number(uint64(size)) + size }
	all := 0
	for _, x := range l {
		size := field(9 + 1 + number(uint64(x.Sample.Time)))
		for _, y := range x.Labels {
			size += field(field(len(y.Name)) + field(len(y.Value)))
		}
		all += field(size)
	}
	return all
}

// asMany: how many go.
func asMany(s api.Shard) int {
	n := min(s.Batch, len(s.Items))
	for sizeOf(s.Items[:n]) > 20000 {
		n /= 2
	}
	return n
}

// unpacked: what a text has that went; each series has one sample.
func unpacked(t *testing.T, text string) []api.Item {
	t.Helper()
	long, e := press.Unpack(text, api.MaxText)
	if e != api.OK {
		t.Fatalf("%x is %d", text, e)
	}
	l, e := wire.Read(long)
	if e != api.OK {
		t.Fatalf("%x is %d", long, e)
	}
	var all []api.Item
	for _, x := range l {
		if len(x.Samples) != 1 {
			t.Fatalf("%x has %v", text, x)
		}
		all = append(all, api.Item{Labels: x.Labels, Sample: x.Samples[0]})
	}
	return all
}

// goes: so many must go now.
func goes(t *testing.T, s api.Shard, now, n int) {
	t.Helper()
	l, text, e := shard.Next(s, now)
	if !sameItems(l, s.Items[:n]) || e != api.OK || (text == "") != (n == 0) {
		t.Errorf("%v at %d: it is %d items, %x, %d, not %d", s, now, len(l), text, e, n)
		return
	}
	if n == 0 {
		return
	}
	var series []api.Series
	want := append([]api.Item(nil), l...)
	for i := range want {
		want[i].Number = 0
		series = append(series, api.Series{Labels: want[i].Labels, Samples: []api.Sample{want[i].Sample}})
	}
	if in := unpacked(t, text); !sameItems(in, want) {
		t.Errorf("%v at %d: in it are %v", s, now, in)
	}
	long, _ := wire.Write(series)
	if short, _ := press.Pack(long); short != text {
		t.Errorf("%v at %d: it is %x, not %x", s, now, text, short)
	}
}

// refusesNext: this must be the error, and nothing goes (P1).
func refusesNext(t *testing.T, s api.Shard, now int, want api.Errno) {
	t.Helper()
	if l, text, e := shard.Next(s, now); len(l) != 0 || text != "" || e != want {
		t.Errorf("%v at %d: it is %v %x %d, not %d", s, now, l, text, e, want)
	}
}

// refusesDone: this must be the error, and no shard comes (P1).
func refusesDone(t *testing.T, s api.Shard, now, answer int, want api.Errno) {
	t.Helper()
	if x, e := shard.Done(s, now, answer); !same(x, api.Shard{}) || e != want {
		t.Errorf("%v at %d, %d: it is %v %d, not %d", s, now, answer, x, e, want)
	}
}

// becomes: this must come of an answer.
func becomes(t *testing.T, s api.Shard, now, answer int, want api.Shard) {
	t.Helper()
	if x, e := shard.Done(s, now, answer); !same(x, want) || e != api.OK {
		t.Errorf("%v at %d, %d: it is %v %d, not %v", s, now, answer, x, e, want)
	}
}

// bulky items, of which seven are short enough to go at once.
func bulky(n int) []api.Item {
	l := items(n)
	for i := range l {
		l[i].Labels = many(20, strings.Repeat("v", 100))
		for j := range l[i].Labels {
			l[i].Labels[j].Name += strings.Repeat("n", 30)
		}
	}
	return l
}

// K3: the first items, Batch at most.
func TestNext(t *testing.T) {
	for batch := 1; batch <= 200; batch++ {
		for _, n := range []int{0, 1, 2, 3, 99, 100} {
			s := api.Shard{Items: items(n), Batch: batch, Room: 100, First: 1, Most: 1}
			goes(t, s, 0, min(n, batch))
		}
	}
	mixed := with(item(2, "a", "x"), item(3), item(4, "a", "x"), item(9, "b", "y"))
	for batch := range 6 {
		mixed.Batch = batch + 1
		goes(t, mixed, 5, min(batch+1, 4))
	}
	goes(t, with(api.Item{Sample: api.Sample{Time: -api.MaxTime, Bits: 1<<64 - 1}}, api.Item{Number: 1, Sample: api.Sample{Time: api.MaxTime}}), 0, 2)
}

// K3: half as many, without what is behind the point, until they are short enough.
func TestNextHalves(t *testing.T) {
	if l := bulky(8); sizeOf(l[:7]) > 20000 || sizeOf(l) <= 20000 {
		t.Fatal("not just seven of them are short enough")
	}
	for _, c := range []struct{ batch, n, want int }{
		{1, 100, 1}, {6, 100, 6}, {7, 100, 7}, {8, 100, 4}, {9, 100, 4}, {13, 100, 6}, {14, 100, 7}, {15, 100, 7}, {16, 100, 4}, {20, 100, 5},
		{25, 100, 6}, {31, 100, 7}, {32, 100, 4}, {99, 100, 6}, {100, 100, 6}, {200, 100, 6}, {200, 20, 5}, {200, 13, 6}, {200, 9, 4}, {200, 1, 1}, {5, 7, 5},
	} {
		s := api.Shard{Items: bulky(c.n), Batch: c.batch, Room: 100, First: 1, Most: 1}
		goes(t, s, 0, c.want)
		want := s
		want.Items = s.Items[c.want:]
		becomes(t, s, 0, api.AnswerOK, want)
	}
	// What is behind the half does not matter, though it alone is too long.
	goes(t, with(append(items(90), bulky(100)[90:]...)...), 0, 2)
	s := with(append(items(90), bulky(100)[90:]...)...)
	s.Batch = 200
	goes(t, s, 0, 50)
}

// K3: as long as may be, and a byte longer.
func TestNextLength(t *testing.T) {
	full := func(size int) api.Shard {
		s := with(bulky(8)...)
		s.Batch = 8
		for i := range s.Items {
			for j := range s.Items[i].Labels {
				x := &s.Items[i].Labels[j]
				for sizeOf(s.Items) > size && len(x.Value) > 1 {
					x.Value = x.Value[1:]
				}
			}
		}
		for sizeOf(s.Items) < size {
			s.Items[7].Labels[0].Value += "w"
		}
		if sizeOf(s.Items) != size {
			t.Fatalf("they are not of %d bytes", size)
		}
		return s
	}
	goes(t, full(19999), 0, 8)
	goes(t, full(20000), 0, 8)
	goes(t, full(20001), 0, 4)
}

// K3: errors, in their order.
func TestNextErrors(t *testing.T) {
	for _, s := range []api.Shard{with(), with(items(5)...)} {
		for _, till := range []int{-api.MaxTime, -5, 0, 7, api.MaxTime} {
			s.Till = till
			for _, now := range []int{till, till + 1, api.MaxTime} {
				if now <= api.MaxTime {
					goes(t, s, now, min(2, len(s.Items)))
				}
			}
			for _, now := range []int{till - 1, -api.MaxTime} {
				if now >= -api.MaxTime && now < till {
					refusesNext(t, s, now, api.ErrState)
				}
			}
			for _, now := range []int{api.MaxTime + 1, -api.MaxTime - 1, 1<<63 - 1, -1 << 63} {
				refusesNext(t, s, now, api.ErrRange)
			}
			s.Waits = 10
		}
	}
}

// K4: what becomes of what went.
func TestDone(t *testing.T) {
	for _, answer := range []int{api.AnswerOK, api.AnswerBad} {
		for waits, till := range map[int]int{0: 0, 10: 90, 35: 100, 20: -5} {
			s := with(items(5)...)
			s.Waits, s.Till = waits, till
			becomes(t, s, 100, answer, with(items(5)[2:]...))
			s.Items = s.Items[:1]
			becomes(t, s, 100, answer, with())
			s.Items, s.Batch = items(100), 200
			want := with()
			want.Batch = 200
			becomes(t, s, 100, answer, want)
		}
	}
}

// K4: it waits longer and longer; all stay.
func TestDoneNone(t *testing.T) {
	for _, c := range []struct{ first, most, waits, want int }{
		{10, 35, 0, 10}, {10, 35, 10, 20}, {10, 35, 11, 22}, {10, 35, 17, 34}, {10, 35, 18, 35}, {10, 35, 20, 35}, {10, 35, 35, 35},
		{10, 20, 10, 20}, {10, 19, 10, 19}, {10, 10, 0, 10}, {10, 10, 10, 10}, {1, 100000, 0, 1}, {1, 100000, 1, 2}, {1, 100000, 50000, 100000}, {1, 100000, 50001, 100000}, {1, 100000, 100000, 100000}, {1, 1, 0, 1},
	} {
		for _, now := range []int{100, 0, -1000, -api.MaxTime, api.MaxTime - 200000} {
			s := with(items(5)...)
			s.First, s.Most, s.Waits, s.Till = c.first, c.most, c.waits, max(now-3, -api.MaxTime)
			want := s
			want.Waits, want.Till = c.want, now+c.want
			becomes(t, s, now, api.AnswerNone, want)
		}
	}
	for _, left := range []int{0, 1, 9, 10, 11} {
		s := with(items(1)...)
		want := s
		want.Waits, want.Till = 10, api.MaxTime-left+min(10, left)
		becomes(t, s, api.MaxTime-left, api.AnswerNone, want)
	}
}

// K4: errors, in their order.
func TestDoneErrors(t *testing.T) {
	none, some := with(), with(items(5)...)
	none.Till, some.Till = 50, 50
	for _, answer := range []int{api.AnswerOK, api.AnswerBad, api.AnswerNone, 1, -1, 201, 404, 500, 1<<63 - 1} {
		for _, s := range []api.Shard{none, some} {
			refusesDone(t, s, api.MaxTime+1, answer, api.ErrRange)
			refusesDone(t, s, -1<<63, answer, api.ErrRange)
			refusesDone(t, s, 49, answer, api.ErrState)
		}
		if answer == api.AnswerOK || answer == api.AnswerBad || answer == api.AnswerNone {
			refusesDone(t, none, 50, answer, api.ErrNone)
			continue
		}
		refusesDone(t, none, 50, answer, api.ErrKind)
		refusesDone(t, some, 50, answer, api.ErrKind)
	}
}
