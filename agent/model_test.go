package agent_test

import (
	"fmt"
	"math/rand"
	"slices"
	"testing"

	"gleaner/agent"
	"gleaner/api"
	"gleaner/labels"
	"gleaner/log"
	"gleaner/record"
	"gleaner/scrape"
	"gleaner/shard"
	"gleaner/take"
)

// told: what a log tells that was appended: where its records end, and how many samples are offered by then; all of these; and what is known.
type told struct {
	ends, counts []int
	items        []api.Item
	known        api.Known
}

// asTold: what a log tells; and is that all of it?
func asTold(s string) (told, bool) {
	x, again := told{ends: []int{0}, counts: []int{0}}, ""
	records, _ := log.Read(s)
	for _, text := range records {
		r, e := record.Unpack(text)
		if e != api.OK {
			return x, false
		}
		if x.known, e = record.Learn(x.known, r); e != api.OK {
			return x, false
		}
		for _, p := range r.Points {
			i := slices.IndexFunc(x.known.Refs, func(y api.Ref) bool { return y.Ref == p.Ref })
			x.items = append(x.items, api.Item{Number: len(x.items), Labels: x.known.Refs[i].Labels, Sample: api.Sample{Time: p.Time, Bits: p.Bits}})
		}
		again, _ = log.Append(again, text)
		x.ends, x.counts = append(x.ends, len(again)), append(x.counts, len(x.items))
	}
	return x, again == s
}

// lasting: how many samples last.
func (x told) lasting(a api.Agent) int { return x.counts[slices.Index(x.ends, a.Lasting)] }

// asWaiting: may this wait in an agent's shards?
func asWaiting(a api.Agent, x told) bool {
	met := map[int]int{}
	for i, s := range a.Shards {
		for _, y := range s.Items {
			if y.Number < a.Cursor || y.Number >= a.Filled || !sameItems([]api.Item{y}, x.items[y.Number:][:1]) || sum(y.Labels)%uint64(len(a.Shards)) != uint64(i) {
				return false
			}
			met[y.Number]++
		}
	}
	for _, n := range met {
		if n > 1 {
			return false
		}
	}
	return a.Cursor == a.Filled || met[a.Cursor] == 1
}

// asChecked: what Check must say.
func asChecked(a api.Agent) api.Errno {
	if len(a.Watches) > 100 {
		return api.ErrMany
	}
	for _, w := range a.Watches {
		if e := scrape.Check(w); e != api.OK {
			return e
		}
	}
	if len(a.Shards) == 0 || len(a.Shards) > 8 {
		return api.ErrRange
	}
	x, whole := asTold(a.Log)
	switch {
	case !whole:
		return api.ErrState
	case !slices.Contains(x.ends, a.Lasting), a.LastCursor < 0, a.LastCursor > a.Cursor, a.Cursor > a.Filled, a.Filled > len(x.items), a.Now < 0, a.Now > api.MaxTime:
		return api.ErrRange
	case a.LastCursor > x.lasting(a):
		return api.ErrState
	}
	for _, s := range a.Shards {
		if e := shard.Check(s); e != api.OK {
			return e
		}
	}
	if !asWaiting(a, x) {
		return api.ErrState
	}
	return take.Check(a.Store)
}

// asScraped: what a scrape makes of an agent.
func asScraped(a api.Agent, x told, which int, s api.Scrape) (api.Agent, api.Errno) {
	if which < 0 || which >= len(a.Watches) {
		return api.Agent{}, api.ErrNone
	}
	s.Now = a.Now
	o, e := scrape.Run(a.Watches[which], s, x.known)
	if e != api.OK {
		return api.Agent{}, e
	}
	a.Watches[which] = o.Watch
	for _, r := range []api.Record{o.Series, o.Samples} {
		if len(r.Refs)+len(r.Points) == 0 {
			continue
		}
		text, e := record.Pack(r)
		s, f := log.Append(a.Log, text)
		if e != api.OK || f != api.OK {
			return api.Agent{}, api.ErrMany
		}
		a.Log = s
	}
	if _, whole := asTold(a.Log); !whole {
		return api.Agent{}, api.ErrMany
	}
	return a, api.OK
}

// asFilled: what a fill makes of an agent.
func asFilled(a api.Agent, x told) api.Agent {
	for _, y := range x.items[min(a.Filled, x.lasting(a)):x.lasting(a)] {
		s := &a.Shards[sum(y.Labels)%uint64(len(a.Shards))]
		if len(s.Items) == s.Room {
			break
		}
		s.Items = append(s.Items, y)
		a.Filled++
	}
	return a
}

// asSent: what sending makes of an agent.
func asSent(a api.Agent, which, fate int) (api.Agent, api.Errno) {
	if which < 0 || which >= len(a.Shards) {
		return api.Agent{}, api.ErrNone
	}
	if fate < 1 || fate > 4 {
		return api.Agent{}, api.ErrKind
	}
	s := &a.Shards[which]
	items, text, e := shard.Next(*s, a.Now)
	if e != api.OK {
		return api.Agent{}, e
	}
	if len(items) == 0 {
		return api.Agent{}, api.ErrNone
	}
	answer := api.AnswerNone
	if fate != api.FateLost {
		a.Store, answer, e = take.Take(a.Store, text)
		if e != api.OK {
			return api.Agent{}, api.ErrMany
		}
	}
	if fate == api.FateMute {
		answer = api.AnswerNone
	}
	*s, _ = shard.Done(*s, a.Now, answer)
	a.Cursor = a.Filled
	for _, s := range a.Shards {
		for _, y := range s.Items {
			a.Cursor = min(a.Cursor, y.Number)
		}
	}
	return a, api.OK
}

// asCrashed: what a crash makes of an agent.
func asCrashed(a api.Agent, x told, n int) (api.Agent, api.Errno) {
	if n < 0 {
		return api.Agent{}, api.ErrRange
	}
	left := 0
	for _, end := range x.ends {
		if end <= a.Lasting || n <= len(a.Log)-end {
			left = end
		}
	}
	return crashed(a, left), api.OK
}

// asStepped: what Step must say. (What is sent twice is taken once: so both come out the same.)
func asStepped(a api.Agent, e api.Event) (api.Agent, api.Errno) {
	if e := asChecked(a); e != api.OK {
		return api.Agent{}, e
	}
	a = deep(a)
	x, _ := asTold(a.Log)
	switch e.Kind {
	case api.EventScrape:
		return asScraped(a, x, e.Which, e.Scrape)
	case api.EventSync:
		a.Lasting, a.LastCursor = len(a.Log), a.Cursor
		return a, api.OK
	case api.EventFill:
		return asFilled(a, x), api.OK
	case api.EventSend:
		return asSent(a, e.Which, e.Fate)
	case api.EventTick:
		if e.N < 0 || e.N > 1000000 || a.Now+e.N > api.MaxTime {
			return api.Agent{}, api.ErrRange
		}
		a.Now += e.N
		return a, api.OK
	case api.EventCrash:
		return asCrashed(a, x, e.N)
	}
	return api.Agent{}, api.ErrKind
}

func pick[T any](r *rand.Rand, of ...T) T { return of[r.Intn(len(of))] }

// someScrape: of few series, so that they come again; few fail.
func someScrape(r *rand.Rand, now int) api.Scrape {
	s := api.Scrape{Told: r.Intn(12) > 0, Now: r.Intn(100) - 50, Limits: api.Limits{Bytes: pick(r, 2000, 2000, 2000, 20), Readings: pick(r, 300, 300, 300, 2)}}
	for range r.Intn(6) {
		s.Body += pick(r, "a", "b", "c", "d", "e") + pick(r, "", "", "", `{x="1"}`, `{x="2"}`, `{job="z"}`) + " " + pick(r, "1", "2", "NaN", "0.5")
		if r.Intn(4) == 0 {
			s.Body += fmt.Sprint(" ", now+r.Intn(30)-10)
		}
		s.Body += "\n"
	}
	if r.Intn(25) == 0 {
		s.Body += pick(r, "x", "a 1 b", "a{x=\"1\",x=\"2\"} 1")
	}
	for range max(0, r.Intn(5)-3) {
		s.Rules = append(s.Rules, pick(r,
			api.Rule{Kind: api.RuleDrop, Sources: []string{"__name__"}, Mask: "[ab]"},
			api.Rule{Kind: api.RuleLose, Mask: pick(r, "x", "job", "x|job|__name__")},
			api.Rule{Kind: api.RuleReplace, Mask: ".*", Target: "job", Replacement: pick(r, "j", "k", "")}))
	}
	return s
}

// some event, of those that an agent may see; few are wrong.
func some(r *rand.Rand, a api.Agent) api.Event {
	e := api.Event{Kind: pick(r, 1, 1, 1, 2, 3, 3, 4, 4, 4, 4, 4, 5, 5, 6)}
	switch e.Kind {
	case api.EventScrape:
		e.Which, e.Scrape = r.Intn(len(a.Watches)+1), someScrape(r, a.Now)
	case api.EventSend:
		e.Which, e.Fate = r.Intn(len(a.Shards)), pick(r, 1, 1, 1, 2, 3, 4)
	case api.EventTick:
		e.N = r.Intn(20)
	case api.EventCrash:
		e.N = pick(r, 0, r.Intn(30), r.Intn(200), 1000)
	}
	if r.Intn(50) == 0 {
		x := pick(r, &e.Kind, &e.Which, &e.N, &e.Fate, &e.Scrape.Limits.Bytes)
		*x = pick(r, -1, 0, 5, 7, 8, 100, 20001, 1000001, 1<<63-1, -1<<63)
	}
	return e
}

// someNew: an agent with few targets, and shards.
func someNew(t *testing.T, r *rand.Rand) api.Agent {
	var l []api.Shard
	for range pick(r, 1, 1, 2, 2, 3, 1+r.Intn(8)) {
		first := 1 + r.Intn(8)
		l = append(l, api.Shard{Batch: 1 + r.Intn(4), Room: 1 + r.Intn(8), First: first, Most: first + r.Intn(20)})
	}
	return made(t, l, []api.Target{target("job", "j"), target("job", "k"), target(), target("job", "j", "x", "1")}[:r.Intn(5)]...)
}

// mar something of an agent, which may be right even so.
func mar(r *rand.Rand, a api.Agent) api.Agent {
	a = deep(a)
	number := func(x *int) { *x += pick(r, 1, -1, 2, -2, r.Intn(10), 1000, -1000, 1<<62, -1<<62) }
	s := &a.Shards[r.Intn(len(a.Shards))]
	switch r.Intn(9) {
	case 0, 1, 2:
		number(pick(r, &a.Lasting, &a.Cursor, &a.LastCursor, &a.Filled, &a.Now))
	case 3:
		number(pick(r, &s.Batch, &s.Room, &s.First, &s.Most, &s.Waits, &s.Till))
	case 4:
		x, _ := asTold(a.Log)
		a.Lasting, a.LastCursor = pick(r, x.ends...), a.LastCursor*r.Intn(2)
	case 5:
		a.Log = pick(r, a.Log+"\x00", a.Log[:r.Intn(len(a.Log)+1)], appended(a.Log, "x"), appended(a.Log, "\x02\x00"))
	case 6:
		a.Shards = pick(r, a.Shards[1:], append(a.Shards, a.Shards[0]), nil)
	case 7:
		a.Store = append(pick(r, nil, a.Store), api.Series{Labels: of("z", "z"), Samples: make([]api.Sample, r.Intn(3))})
	case 8:
		marItems(r, s)
	}
	return a
}

func marItems(r *rand.Rand, s *api.Shard) {
	if len(s.Items) == 0 {
		return
	}
	i := r.Intn(len(s.Items))
	switch r.Intn(5) {
	case 0:
		s.Items = slices.Delete(s.Items, i, i+1)
	case 1:
		s.Items[i].Number += pick(r, 1, -1, 1000)
	case 2:
		s.Items[i].Sample.Time += pick(r, 1, -1, api.MaxTime)
	case 3:
		s.Items[i].Sample.Bits++
	case 4:
		s.Items[i].Labels, _ = labels.With(s.Items[i].Labels, pick(r, "job", "y"), pick(r, "j", "y"))
	}
}

// M1 to M4: many agents, behind many events, and marred ones.
func TestAsModel(t *testing.T) {
	r := rand.New(rand.NewSource(1))
	met, wrongs := map[[2]int]int{}, map[api.Errno]int{}
	for range 250 {
		a := someNew(t, r)
		for range 60 {
			e := some(r, a)
			b, f := agent.Step(a, e)
			if want, g := asStepped(a, e); !same(b, want) || f != g {
				t.Fatalf("%v behind %v: it is %v %d, not %v %d", e, a, b, f, want, g)
			}
			met[[2]int{e.Kind, int(f)}]++
			x, _ := asTold(a.Log)
			if l, e := agent.Offered(a); !sameItems(l, x.items) || e != api.OK {
				t.Fatalf("%v: offered are %v %d, not %v", a, l, e, x.items)
			}
			m := mar(r, a)
			want := asChecked(m)
			if f := agent.Check(m); f != want {
				t.Fatalf("%v: it is %d, not %d", m, f, want)
			}
			c, g := agent.Step(m, e)
			if want, h := asStepped(m, e); !same(c, want) || g != h {
				t.Fatalf("%v behind %v: it is %v %d, not %v %d", e, m, c, g, want, h)
			}
			wrongs[want]++
			if f == api.OK {
				a = b
			}
		}
	}
	for kind := 1; kind <= 6; kind++ {
		if met[[2]int{kind, 0}] < 200 {
			t.Errorf("event %d went well %d times", kind, met[[2]int{kind, 0}])
		}
	}
	for _, x := range [][2]int{{1, 5}, {1, 3}, {4, 5}, {4, 7}, {4, 4}, {5, 3}, {6, 3}, {7, 7}} {
		if met[x] == 0 {
			t.Errorf("event %d never has error %d", x[0], x[1])
		}
	}
	for _, e := range []api.Errno{api.OK, api.ErrRange, api.ErrState} {
		if wrongs[e] < 100 {
			t.Errorf("of marred agents just %d are %d: %v", wrongs[e], e, wrongs)
		}
	}
}
