package agent_test

import (
	"testing"

	"gleaner/api"
)

// crashed: what must be left of an agent, if so much of its log is.
func crashed(a api.Agent, left int) api.Agent {
	b := api.Agent{Log: a.Log[:left], Lasting: left, LastCursor: a.LastCursor, Cursor: a.LastCursor, Filled: a.LastCursor, Now: a.Now, Store: a.Store}
	for _, x := range a.Watches {
		b.Watches = append(b.Watches, api.Watch{Target: x.Target})
	}
	for _, s := range a.Shards {
		b.Shards = append(b.Shards, api.Shard{Batch: s.Batch, Room: s.Room, First: s.First, Most: s.Most})
	}
	return b
}

// M3: the log is cut to what lasts, and of the rest all but its last N bytes, and to whole records; wherever that is.
func TestStepCrash(t *testing.T) {
	a := busy(t)
	for range 3 {
		a = behind(t, a, tick(1), tells(1, "a 1"), tick(1), silent(1))
	}
	ends := endsOf(t, a.Log)
	// What lasts, one record of samples of the first target, and a series and six such records of the other one.
	if len(ends) != 11 || ends[2] != a.Lasting {
		t.Fatalf("records end at %v", ends)
	}
	rest := len(a.Log) - a.Lasting
	for n := range rest + 20 {
		left := 0
		for _, x := range ends {
			if x <= max(a.Lasting, len(a.Log)-n) {
				left = x
			}
		}
		steps(t, a, crash(n), crashed(a, left))
	}
	for _, n := range []int{rest, len(a.Log), len(a.Log) + 1, 1<<63 - 1} {
		steps(t, a, crash(n), crashed(a, a.Lasting))
	}
	for _, n := range []int{-1, -rest, -1 << 63} {
		refuses(t, a, crash(n), api.ErrRange)
	}
}

// M3: what lasts is not cut, whatever N is; where nothing lasts nothing need be left.
func TestStepCrashLasts(t *testing.T) {
	a := made(t, shards(), target("job", "j"))
	for _, n := range []int{0, 1, 1<<63 - 1} {
		steps(t, a, crash(n), a)
	}
	refuses(t, a, crash(-1), api.ErrRange)
	a = behind(t, a, tick(5), tells(0, "a 1\nb 1"))
	steps(t, a, crash(0), crashed(a, len(a.Log)))
	steps(t, a, crash(1000), crashed(a, 0))
	a = behind(t, a, sync(), fill(), send(0, api.FateDone), send(1, api.FateMute))
	for _, n := range []int{0, 1, 1000, 1<<63 - 1} {
		// Cursor is 1, but LastCursor is 0: all is to be filled once more.
		steps(t, a, crash(n), crashed(a, len(a.Log)))
	}
	a = behind(t, a, sync())
	for _, n := range []int{0, 1000} {
		steps(t, a, crash(n), crashed(a, len(a.Log)))
	}
	if a.LastCursor != 1 || a.Shards[1].Till != 10 {
		t.Errorf("it is %v", a)
	}
}

// M3: noughts that stand behind what lasts are no record.
func TestStepCrashNoughts(t *testing.T) {
	a := busy(t)
	// The log's first record ends at 123: in that page no head fits any more.
	a.Lasting, a.LastCursor = 123, 0
	for n := range 80 {
		want := 123
		if len(a.Log)-n >= 197 {
			want = 197
		}
		if n == 0 {
			want = len(a.Log)
		}
		steps(t, a, crash(n), crashed(a, want))
	}
	a.Lasting = 0
	for n := len(a.Log) - 130; n < len(a.Log)+5; n++ {
		want := 0
		if len(a.Log)-n >= 123 {
			want = 123
		}
		steps(t, a, crash(n), crashed(a, want))
	}
}

// M3 and M5: behind a crash refs that went are given anew, and series that went are new ones.
func TestStepCrashAnew(t *testing.T) {
	a := behind(t, made(t, shards(), target("job", "j")), tells(0, "a 1"), sync(), tick(1), tells(0, "a 1\nb 1\nc 1"), crash(1000), tells(0, "c 1\na 1"))
	want := logged(t, "", series(ref(1, "__name__", "a", "job", "j")), samples(point(1, 0, oneBits)),
		series(ref(2, "__name__", "c", "job", "j")), samples(point(2, 1, oneBits), point(1, 1, oneBits)))
	if a.Log != want {
		t.Errorf("it is %q, not %q", a.Log, want)
	}
	a = behind(t, a, sync(), fill(), send(0, api.FateDone), send(0, api.FateDone))
	if !sameStore(a.Store, []api.Series{stored("a", 0, 1), stored("c", 1)}) {
		t.Errorf("it is %v", a.Store)
	}
}
