package shard_test

import (
	"slices"
	"strings"
	"testing"

	"gleaner/api"
	"gleaner/shard"
)

// of some names and values, one behind the other.
func of(namesAndValues ...string) []api.Label {
	var l []api.Label
	for i := 0; i < len(namesAndValues); i += 2 {
		l = append(l, api.Label{Name: namesAndValues[i], Value: namesAndValues[i+1]})
	}
	return l
}

// many labels, whose names are na to nt.
func many(n int, value string) []api.Label {
	var l []api.Label
	for i := range n {
		l = append(l, api.Label{Name: "n" + string(rune('a'+i)), Value: value})
	}
	return l
}

func item(number int, namesAndValues ...string) api.Item {
	return api.Item{Number: number, Labels: of(namesAndValues...), Sample: api.Sample{Time: 10 * number, Bits: uint64(number)}}
}

// items by the numbers from 0 on below n.
func items(n int) []api.Item {
	var l []api.Item
	for i := range n {
		l = append(l, item(i, "a", "x"))
	}
	return l
}

// with: a shard in which some wait.
func with(l ...api.Item) api.Shard {
	return api.Shard{Items: l, Batch: 2, Room: 100, First: 10, Most: 35}
}

// sameItems: an empty list may be nil or not.
func sameItems(a, b []api.Item) bool {
	return slices.EqualFunc(a, b, func(x, y api.Item) bool {
		return x.Number == y.Number && slices.Equal(x.Labels, y.Labels) && x.Sample == y.Sample
	})
}

func same(a, b api.Shard) bool {
	return sameItems(a.Items, b.Items) && a.Batch == b.Batch && a.Room == b.Room && a.First == b.First && a.Most == b.Most && a.Waits == b.Waits && a.Till == b.Till
}

// wrongItems by themselves, and which error each is.
var wrongItems = []struct {
	x    api.Item
	want api.Errno
}{
	{api.Item{Number: -1}, api.ErrRange},
	{api.Item{Number: -1 << 63}, api.ErrRange},
	{api.Item{Sample: api.Sample{Time: api.MaxTime + 1}}, api.ErrRange},
	{api.Item{Sample: api.Sample{Time: -api.MaxTime - 1}}, api.ErrRange},
	{api.Item{Sample: api.Sample{Time: -1 << 63}}, api.ErrRange},
	{api.Item{Number: -1, Labels: of("1", "x")}, api.ErrRange},
	{api.Item{Labels: many(21, "v"), Sample: api.Sample{Time: 1<<63 - 1}}, api.ErrRange},
	{api.Item{Number: 5, Labels: of("1", "x")}, api.ErrForm},
	{api.Item{Number: 5, Labels: of("a", "")}, api.ErrForm},
	{api.Item{Number: 5, Labels: of("a", strings.Repeat("v", 101))}, api.ErrMany},
	{api.Item{Number: 5, Labels: many(21, "v")}, api.ErrMany},
	{api.Item{Number: 5, Labels: of("a", "x", "a", "y")}, api.ErrTwice},
	{api.Item{Number: 5, Labels: of("b", "x", "a", "x")}, api.ErrState},
}

// wrong: a shard, and which error it is; of more than one the first.
type wrong struct {
	what string
	s    api.Shard
	want api.Errno
}

// marred: a shard that is right, but for what a function does to it.
func marred(do func(s *api.Shard)) api.Shard {
	s := with(item(3, "a", "x"), item(5))
	do(&s)
	return s
}

func wrongBounds() []wrong {
	l := []wrong{
		{"the shard of nothing", api.Shard{}, api.ErrRange},
		{"no Batch", marred(func(s *api.Shard) { s.Batch = 0 }), api.ErrRange},
		{"a Batch below 0", marred(func(s *api.Shard) { s.Batch = -1 }), api.ErrRange},
		{"too great a Batch", marred(func(s *api.Shard) { s.Batch = 201 }), api.ErrRange},
		{"no Room", marred(func(s *api.Shard) { s.Room = 0 }), api.ErrRange},
		{"a Room below 0", marred(func(s *api.Shard) { s.Room = -1 << 63 }), api.ErrRange},
		{"too great a Room", marred(func(s *api.Shard) { s.Room = 101 }), api.ErrRange},
		{"no First", marred(func(s *api.Shard) { s.First = 0 }), api.ErrRange},
		{"a First below 0", marred(func(s *api.Shard) { s.First = -1 }), api.ErrRange},
		{"a First above Most", marred(func(s *api.Shard) { s.First = 36 }), api.ErrRange},
		{"too great a Most", marred(func(s *api.Shard) { s.Most = 100001 }), api.ErrRange},
		{"neither First nor Most", marred(func(s *api.Shard) { s.First, s.Most = 0, 0 }), api.ErrRange},
		{"Waits below 0", marred(func(s *api.Shard) { s.Waits = -1 }), api.ErrRange},
		{"Waits above 0, and below First", marred(func(s *api.Shard) { s.Waits = 9 }), api.ErrRange},
		{"Waits above Most", marred(func(s *api.Shard) { s.Waits = 36 }), api.ErrRange},
		{"too late a Till", marred(func(s *api.Shard) { s.Till = api.MaxTime + 1 }), api.ErrRange},
		{"too early a Till", marred(func(s *api.Shard) { s.Till = -api.MaxTime - 1 }), api.ErrRange},
	}
	// Whatever is wrong with the numbers is told ahead of what is wrong with the items.
	for _, x := range l {
		s := x.s
		s.Items = append(items(101), item(-1, "1", "x"))
		l = append(l, wrong{x.what + ", and too many", s, x.want})
	}
	return l
}

func wrongShards() []wrong {
	bad := item(9, "1", "x")
	l := append(wrongBounds(),
		wrong{"one too many", marred(func(s *api.Shard) { s.Room = 1 }), api.ErrMany},
		wrong{"far too many", with(items(500)...), api.ErrMany},
		wrong{"too many, and not right", with(append(items(100), bad)...), api.ErrMany},
		wrong{"numbers stay", with(item(3), item(3)), api.ErrState},
		wrong{"numbers fall", with(item(3), item(4), item(2)), api.ErrState},
		wrong{"the first ones fall", with(item(1), item(0), item(5)), api.ErrState},
		wrong{"the last one of them stays", with(append(items(99), item(98))...), api.ErrState},
		wrong{"numbers fall ahead of a wrong one", with(item(3), item(3), bad), api.ErrState},
		wrong{"numbers fall behind a wrong one", with(bad, item(3), item(3)), api.ErrForm},
		wrong{"a number falls, and is not right", with(item(3), item(-3)), api.ErrRange},
		wrong{"a number falls, and its labels are not right", with(item(30), bad), api.ErrForm},
	)
	for _, x := range wrongItems {
		l = append(l,
			wrong{"a wrong item alone", with(x.x), x.want},
			wrong{"a wrong item behind others", with(item(1), item(3, "b", "y"), x.x), x.want},
			wrong{"the first of two wrong ones", with(x.x, item(2, "a", strings.Repeat("v", 101)), item(-1)), x.want})
	}
	return l
}

// K1: what Check tells, and all others (but Which) ahead of all.
func TestCheckWrong(t *testing.T) {
	for _, c := range wrongShards() {
		if e := shard.Check(c.s); e != c.want {
			t.Errorf("%s: it is %d, not %d", c.what, e, c.want)
		}
		for _, x := range []api.Item{item(1000, "a", "x"), {Number: -1}, {Number: 1, Labels: of("1", "x")}, {Number: 1, Labels: many(21, "v")}} {
			refusesPush(t, c.s, x, c.want)
		}
		for _, now := range []int{0, 1000, -1000, api.MaxTime + 1, -1 << 63} {
			refusesNext(t, c.s, now, c.want)
			for _, answer := range []int{api.AnswerOK, api.AnswerBad, api.AnswerNone, 7} {
				refusesDone(t, c.s, now, answer, c.want)
			}
		}
	}
}

// K1: shards that are right.
func TestCheckRight(t *testing.T) {
	for _, s := range []api.Shard{
		{Batch: 1, Room: 1, First: 1, Most: 1},
		{Batch: 1, Room: 1, First: 1, Most: 1, Waits: 1, Items: []api.Item{}},
		{Batch: 200, Room: 100, First: 100000, Most: 100000, Waits: 100000, Till: api.MaxTime, Items: items(100)},
		{Batch: 200, Room: 2, First: 10, Most: 35, Waits: 10, Till: -api.MaxTime, Items: items(2)},
		{Batch: 2, Room: 100, First: 10, Most: 35, Waits: 35},
		{Batch: 2, Room: 100, First: 10, Most: 35, Waits: 22, Till: 5},
		with(item(0), item(1), item(7, "a", "x"), api.Item{Number: 1<<63 - 1}),
		with(api.Item{Labels: many(20, strings.Repeat("v", 100)), Sample: api.Sample{Time: api.MaxTime}}, api.Item{Number: 9, Labels: []api.Label{}, Sample: api.Sample{Time: -api.MaxTime}}),
	} {
		if e := shard.Check(s); e != api.OK {
			t.Errorf("%v: it is %d", s, e)
		}
	}
}
