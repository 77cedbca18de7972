package shard_test

import (
	"math/rand"
	"reflect"
	"strings"
	"testing"
	"unsafe"

	"gleaner/api"
	"gleaner/labels"
	"gleaner/shard"
)

func pick[T any](r *rand.Rand, of ...T) T { return of[r.Intn(len(of))] }

func isTime(n int) bool { return n >= -api.MaxTime && n <= api.MaxTime }

// wrongItem: what is wrong with one by itself.
func wrongItem(x api.Item) api.Errno {
	if x.Number < 0 || !isTime(x.Sample.Time) {
		return api.ErrRange
	}
	return labels.Check(x.Labels)
}

// wrongShard: what Check must say.
func wrongShard(s api.Shard) api.Errno {
	switch {
	case s.Batch < 1, s.Batch > 200, s.Room < 1, s.Room > 100, s.First < 1, s.First > s.Most, s.Most > 100000, !isTime(s.Till):
		return api.ErrRange
	case s.Waits != 0 && (s.Waits < s.First || s.Waits > s.Most):
		return api.ErrRange
	case len(s.Items) > s.Room:
		return api.ErrMany
	}
	for i, x := range s.Items {
		if e := wrongItem(x); e != api.OK {
			return e
		}
		if i > 0 && x.Number <= s.Items[i-1].Number {
			return api.ErrState
		}
	}
	return api.OK
}

// wrongAt: what Next must say.
func wrongAt(s api.Shard, now int) api.Errno {
	if e := wrongShard(s); e != api.OK {
		return e
	}
	switch {
	case !isTime(now):
		return api.ErrRange
	case s.Till > now:
		return api.ErrState
	}
	return api.OK
}

// asPushed: what Push must say.
func asPushed(s api.Shard, x api.Item) (api.Shard, api.Errno) {
	if e := wrongShard(s); e != api.OK {
		return api.Shard{}, e
	}
	if e := wrongItem(x); e != api.OK {
		return api.Shard{}, e
	}
	for _, y := range s.Items {
		if y.Number >= x.Number {
			return api.Shard{}, api.ErrState
		}
	}
	if len(s.Items) == s.Room {
		return api.Shard{}, api.ErrMany
	}
	s.Items = append(append([]api.Item{}, s.Items...), x)
	return s, api.OK
}

// asDone: what Done must say.
func asDone(s api.Shard, now, answer int) (api.Shard, api.Errno) {
	if e := wrongAt(s, now); e != api.OK {
		return api.Shard{}, e
	}
	switch {
	case answer != 0 && answer != 200 && answer != 400:
		return api.Shard{}, api.ErrKind
	case len(s.Items) == 0:
		return api.Shard{}, api.ErrNone
	case answer != 0:
		s.Items, s.Waits, s.Till = s.Items[asMany(s):], 0, 0
		return s, api.OK
	case s.Waits == 0:
		s.Waits = s.First
	case s.Waits*2 > s.Most:
		s.Waits = s.Most
	default:
		s.Waits *= 2
	}
	if s.Till = now + s.Waits; s.Till > api.MaxTime {
		s.Till = api.MaxTime
	}
	return s, api.OK
}

func someLabels(r *rand.Rand) []api.Label {
	if r.Intn(300) == 0 {
		return pick(r, of("1", "x"), of("a", ""), of("a", strings.Repeat("v", 101)), of("a", "x", "a", "x"), of("b", "x", "a", "x"), many(21, "v"))
	}
	if r.Intn(3) == 0 {
		return many(r.Intn(21), strings.Repeat("v", 1+r.Intn(100)))
	}
	return pick(r, nil, of("a", "x"), of("a", "y"), of("a", "x", "b", "z"))
}

func someTime(r *rand.Rand) int {
	if r.Intn(100) == 0 {
		return pick(r, api.MaxTime+1, -api.MaxTime-1, 1<<63-1, -1<<63, api.MaxTime, -api.MaxTime)
	}
	return r.Intn(400) - 200
}

// some shard, now and then one that is not right.
func some(r *rand.Rand) api.Shard {
	s := api.Shard{Batch: pick(r, 1, 2, 3, 10, 30, 100, 200, 1+r.Intn(200)), Room: pick(r, 1, 3, 100, 1+r.Intn(100)), First: 1 + r.Intn(30), Till: someTime(r)}
	s.Most = s.First + r.Intn(60)
	s.Waits = pick(r, 0, s.First, s.Most, s.First+r.Intn(s.Most-s.First+1))
	n := -1
	for range min(r.Intn(s.Room+1), pick(r, 3, 10, 100)) {
		if n += 1 + r.Intn(3); r.Intn(500) == 0 {
			n -= 1 + r.Intn(3)
		}
		s.Items = append(s.Items, api.Item{Number: n, Labels: someLabels(r), Sample: api.Sample{Time: someTime(r), Bits: r.Uint64()}})
	}
	if r.Intn(20) == 0 {
		x := pick(r, &s.Batch, &s.Room, &s.First, &s.Most, &s.Waits, &s.Till)
		*x = pick(r, *x-1, *x+1, 0, -1, 1, 100, 101, 200, 201, 100000, 100001, someTime(r))
	}
	return s
}

// K1 to K4, of many shards.
func TestAsModel(t *testing.T) {
	r := rand.New(rand.NewSource(1))
	met := map[api.Errno]int{}
	for range 15000 {
		s, now := some(r), someTime(r)
		if e, want := shard.Check(s), wrongShard(s); e != want {
			t.Fatalf("%v: it is %d, not %d", s, e, want)
		}
		x := api.Item{Number: r.Intn(300) - 1, Labels: someLabels(r), Sample: api.Sample{Time: someTime(r)}}
		y, e := shard.Push(s, x)
		if want, f := asPushed(s, x); !same(y, want) || e != f {
			t.Fatalf("%v behind %v: it is %v %d, not %v %d", x, s, y, e, want, f)
		}
		met[e]++
		if e := wrongAt(s, now); e == api.OK {
			goes(t, s, now, asMany(s))
		} else {
			refusesNext(t, s, now, e)
		}
		answer := pick(r, 0, 0, 0, 0, 200, 200, 400, 400, r.Intn(500))
		y, e = shard.Done(s, now, answer)
		if want, f := asDone(s, now, answer); !same(y, want) || e != f {
			t.Fatalf("%v at %d, %d: it is %v %d, not %v %d", s, now, answer, y, e, want, f)
		}
		met[e]++
	}
	for e := api.OK; e <= api.ErrKind; e++ {
		if met[e] == 0 {
			t.Errorf("%d is never met", e)
		}
	}
}

// K5: what waits goes in its order, each once; and no wait is longer than Most.
func TestInOrder(t *testing.T) {
	r := rand.New(rand.NewSource(2))
	for range 60 {
		s := api.Shard{Batch: 1 + r.Intn(20), Room: 1 + r.Intn(40), First: 1 + r.Intn(9), Most: 10 + r.Intn(50)}
		var in, out []api.Item
		now := r.Intn(1000)
		for range 300 {
			x := api.Item{Number: 2*len(in) + r.Intn(2), Labels: pick(r, of("a", "x"), nil, bulky(1)[0].Labels), Sample: api.Sample{Time: now}}
			if y, e := shard.Push(s, x); e == api.OK {
				s, in = y, append(in, x)
			} else if e != api.ErrMany || len(s.Items) < s.Room {
				t.Fatalf("%v behind %v: it is %d", x, s, e)
			}
			if now += r.Intn(4); r.Intn(3) > 0 {
				continue
			}
			answer := pick(r, api.AnswerNone, api.AnswerNone, api.AnswerBad, api.AnswerOK)
			s, out, now = sent(t, s, out, now, answer)
		}
		for len(s.Items) > 0 {
			s, out, now = sent(t, s, out, now, api.AnswerOK)
		}
		if !sameItems(in, out) {
			t.Fatalf("%d were pushed, %d went: %v, not %v", len(in), len(out), out, in)
		}
	}
}

// sent: what a shard is behind an answer, what went with it, and when: what is not answered goes again.
func sent(t *testing.T, s api.Shard, out []api.Item, now, answer int) (api.Shard, []api.Item, int) {
	t.Helper()
	if len(s.Items) == 0 {
		return s, out, now
	}
	if s.Till > now {
		if s.Till-now > s.Most {
			t.Fatalf("%v waits too long at %d", s, now)
		}
		refusesNext(t, s, now, api.ErrState)
		now = s.Till
	}
	l, _, e := shard.Next(s, now)
	x, f := shard.Done(s, now, answer)
	if e != api.OK || f != api.OK || len(l) == 0 {
		t.Fatalf("%v at %d: it is %v %d, %v %d", s, now, l, e, x, f)
	}
	if answer != api.AnswerNone {
		out = append(out, l...)
	}
	return x, out, now
}

// P1: whatever is handed in is answered. P3: by the same, each time.
func TestAnything(t *testing.T) {
	r := rand.New(rand.NewSource(3))
	number := func() int {
		return pick(r, 0, 1, -1, r.Intn(300), api.MaxTime, -api.MaxTime, api.MaxTime+1, 1<<63-1, -1<<63, int(r.Uint64()))
	}
	anItem := func() api.Item {
		return api.Item{Number: number(), Labels: someLabels(r), Sample: api.Sample{Time: number(), Bits: r.Uint64()}}
	}
	for range 20000 {
		s := api.Shard{Batch: number(), Room: number(), First: number(), Most: number(), Waits: number(), Till: number()}
		if r.Intn(2) == 0 {
			s = some(r)
		}
		for range r.Intn(3) {
			s.Items = append(s.Items, anItem())
		}
		x, now, answer := anItem(), number(), number()
		all := func() []any {
			n, e := shard.Which(x.Labels, now)
			y, f := shard.Push(s, x)
			l, text, g := shard.Next(s, now)
			z, h := shard.Done(s, now, answer)
			return []any{shard.Check(s), n, e, y, f, l, text, g, z, h}
		}
		if a, b := all(), all(); !reflect.DeepEqual(a, b) {
			t.Fatalf("%v: %v, and then %v", s, a, b)
		}
	}
}

// lies: is a text a piece of another one?
func lies(s, in string) bool {
	at, from := uintptr(unsafe.Pointer(unsafe.StringData(s))), uintptr(unsafe.Pointer(unsafe.StringData(in)))
	return len(s) > 0 && at >= from && at < from+uintptr(len(in))
}

// spare: a shard, and an item, with room behind their lists, in which something lies.
func spare() (api.Shard, api.Item) {
	l := append(of("aa", "xx", "bb", "yy"), of("cc", "zz")...)
	s := with(item(1, "aa", "xx", "bb", "yy"), item(2, "cc", "zz"), item(3, "dd", "ww"), item(99, "ee", "ee"))
	s.Items = s.Items[:3]
	s.Items[0].Labels = l[:2]
	return s, api.Item{Number: 7, Labels: append(of("ff", "uu"), of("gg", "vv")...)[:1]}
}

// P2: what is handed in is only read, the spare room behind it too.
func TestOnlyRead(t *testing.T) {
	s, x := spare()
	kept, keptX := spare()
	shard.Check(s)
	shard.Which(x.Labels, 8)
	shard.Push(s, x)
	shard.Next(s, 5)
	for _, answer := range []int{api.AnswerOK, api.AnswerNone} {
		shard.Done(s, 5, answer)
	}
	if !reflect.DeepEqual(s.Items[:4], kept.Items[:4]) || !reflect.DeepEqual(s.Items[0].Labels[:3], kept.Items[0].Labels[:3]) || !reflect.DeepEqual(x.Labels[:2], keptX.Labels[:2]) {
		t.Errorf("what was handed in became %v, %v", s, x)
	}
}

// P2: an answer is new memory; no two lists of it share any.
func TestNew(t *testing.T) {
	s, x := spare()
	pushed, _ := shard.Push(s, x)
	next, _, _ := shard.Next(s, 5)
	done, _ := shard.Done(s, 5, api.AnswerOK)
	waits, _ := shard.Done(s, 5, api.AnswerNone)
	was := append(append([]api.Item(nil), s.Items...), x)
	for i, l := range [][]api.Item{pushed.Items, next, done.Items, waits.Items} {
		if len(l) != []int{4, 2, 1, 3}[i] {
			t.Fatalf("%d: it is %v", i, l)
		}
		from := 0
		if i == 2 {
			from = 2
		}
		for j := range l {
			for k, y := range l[j].Labels {
				if z := was[from+j].Labels[k]; lies(y.Name, z.Name) || lies(y.Value, z.Value) {
					t.Errorf("%d: a text of %v is not new", i, y)
				}
			}
			_ = append(l[j].Labels, of("other", "other", "other", "other")...)
		}
		if _ = append(l, item(55), item(56)); !sameItems(l, was[from:from+len(l)]) {
			t.Errorf("%d: two lists share memory: %v", i, l)
		}
		for j := range l {
			l[j].Number = 55
			for k := range l[j].Labels {
				l[j].Labels[k].Value = "other"
			}
		}
	}
	if kept, keptX := spare(); !same(s, kept) || !reflect.DeepEqual(x, keptX) {
		t.Errorf("what was handed in became %v, %v", s, x)
	}
}
