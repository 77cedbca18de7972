package agent

import (
	"gleaner/api"
	"gleaner/log"
	"gleaner/record"
	"gleaner/scrape"
	"gleaner/shard"
	"gleaner/take"
)

// maxTick is how much time may go at once.
const maxTick = 1000000

// do what an event asks for. With an error the worker's agent is not to be used any more.
func (w *worker) do(e api.Event) api.Errno {
	switch e.Kind {
	case api.EventScrape:
		return w.scrape(e.Which, e.Scrape)
	case api.EventSync:
		w.Lasting, w.LastCursor = len(w.Log), w.Cursor
		return api.OK
	case api.EventFill:
		w.fill()
		return api.OK
	case api.EventSend:
		return w.send(e.Which, e.Fate)
	case api.EventTick:
		return w.tick(e.N)
	case api.EventCrash:
		return w.crash(e.N)
	}
	return api.ErrKind
}

func (w *worker) scrape(which int, s api.Scrape) api.Errno {
	if which < 0 || which >= len(w.Watches) {
		return api.ErrNone
	}
	s.Now = w.Now
	o, e := scrape.Run(w.Watches[which], s, w.known)
	if e != api.OK {
		return e
	}
	w.Watches[which] = o.Watch
	if !w.write(o.Series) || !w.write(o.Samples) {
		return api.ErrMany
	}
	return api.OK
}

// write a record behind the log, and learn it, if there is something in it; could it be done?
func (w *worker) write(r api.Record) bool {
	if len(r.Refs) == 0 && len(r.Points) == 0 {
		return true
	}
	text, e := record.Pack(r)
	if e != api.OK {
		return false
	}
	if w.known, e = record.Learn(w.known, r); e != api.OK {
		return false
	}
	w.Log, e = log.Append(w.Log, text)
	return e == api.OK
}

// fill the shards with what lasts, up to the first one that has no room for what comes next.
func (w *worker) fill() {
	for w.Filled < w.lasts {
		x := w.offered[w.Filled]
		i := w.shardOf(x)
		s, e := shard.Push(w.Shards[i], x)
		if e != api.OK {
			return
		}
		w.Shards[i] = s
		w.Filled++
	}
}

// comes: how often what is sent comes to the store, by its fate.
func comes() map[int]int {
	return map[int]int{api.FateDone: 1, api.FateMute: 1, api.FateLost: 0, api.FateTwice: 2}
}

func (w *worker) send(which, fate int) api.Errno {
	if which < 0 || which >= len(w.Shards) {
		return api.ErrNone
	}
	times, there := comes()[fate]
	if !there {
		return api.ErrKind
	}
	items, text, e := shard.Next(w.Shards[which], w.Now)
	if e != api.OK {
		return e
	}
	if len(items) == 0 {
		return api.ErrNone
	}
	answer := api.AnswerNone
	for range times {
		if w.Store, answer, e = take.Take(w.Store, text); e != api.OK {
			return api.ErrMany
		}
	}
	if fate == api.FateMute {
		answer = api.AnswerNone
	}
	// It has no error: Next had none, something waits, and the answer is one of those that there are.
	w.Shards[which], _ = shard.Done(w.Shards[which], w.Now, answer)
	w.Cursor = w.least()
	return api.OK
}

func (w *worker) tick(n int) api.Errno {
	if n < 0 || n > maxTick || n > api.MaxTime-w.Now {
		return api.ErrRange
	}
	w.Now += n
	return api.OK
}

func (w *worker) crash(n int) api.Errno {
	if n < 0 {
		return api.ErrRange
	}
	left := w.Log[:max(w.Lasting, len(w.Log)-n)]
	_, whole := record.Replay(left)
	w.Log, w.Lasting = left[:whole], whole
	w.Cursor, w.Filled = w.LastCursor, w.LastCursor
	for i, x := range w.Watches {
		w.Watches[i] = unseen(x.Target)
	}
	for i, s := range w.Shards {
		w.Shards[i] = idle(s)
	}
	return api.OK
}
