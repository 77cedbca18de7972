package agent_test

import (
	"testing"

	"gleaner/agent"
	"gleaner/api"
)

// M3: what a sync makes last.
func TestStepSync(t *testing.T) {
	a := busy(t)
	want := a
	want.Lasting, want.LastCursor = len(a.Log), 1
	steps(t, a, sync(), want)
	a = behind(t, a, tick(2), send(1, api.FateDone))
	if a.Cursor != 3 || a.LastCursor != 1 || a.Lasting != 197 {
		t.Fatalf("it is %v", a)
	}
	want = a
	want.Lasting, want.LastCursor = len(a.Log), 3
	steps(t, a, sync(), want)
	steps(t, want, sync(), want)
	a = made(t, shards())
	steps(t, a, sync(), a)
}

// M3: time goes, up to MaxTime.
func TestStepTick(t *testing.T) {
	a := busy(t)
	for _, n := range []int{0, 1, 999999, 1000000} {
		want := a
		want.Now = 10 + n
		steps(t, a, tick(n), want)
	}
	for _, n := range []int{-1, 1000001, 1<<63 - 1, -1 << 63} {
		refuses(t, a, tick(n), api.ErrRange)
	}
	a.Now = api.MaxTime - 1000
	late := a
	late.Now = api.MaxTime
	steps(t, a, tick(1000), late)
	steps(t, late, tick(0), late)
	refuses(t, a, tick(1001), api.ErrRange)
	refuses(t, late, tick(1), api.ErrRange)
	refuses(t, late, tick(-1), api.ErrRange)
}

// M3: kinds that there are not.
func TestStepKind(t *testing.T) {
	for _, a := range []api.Agent{busy(t), made(t, shards())} {
		for _, kind := range []int{0, -1, 7, 8, 100, 1<<63 - 1, -1 << 63} {
			refuses(t, a, api.Event{Kind: kind, Which: -1, N: -1}, api.ErrKind)
			refuses(t, a, api.Event{Kind: kind, Fate: api.FateDone}, api.ErrKind)
		}
	}
}

// M3: of an event nothing counts but what its kind asks for.
func TestStepAlone(t *testing.T) {
	a := busy(t)
	for _, x := range []api.Event{tells(0, "up 1"), sync(), fill(), send(0, api.FateDone), tick(5), crash(3)} {
		want, e := agent.Step(a, x)
		if e != api.OK {
			t.Fatalf("%v: it is %d", x, e)
		}
		if x.Kind != api.EventScrape {
			x.Scrape = api.Scrape{Now: -1 << 63, Limits: api.Limits{Bytes: -1}, Rules: make([]api.Rule, 31)}
		}
		if x.Kind != api.EventSend {
			x.Fate = 9
		}
		if x.Kind != api.EventTick && x.Kind != api.EventCrash {
			x.N = -1
		}
		if x.Kind != api.EventScrape && x.Kind != api.EventSend {
			x.Which = -1
		}
		steps(t, a, x, want)
	}
}
