package agent

import (
	"gleaner/api"
	"gleaner/log"
	"gleaner/record"
)

// worker on an agent; and what its log tells: what is known, all that is offered, and how many of these last. The items that are offered share labels: copies of them are handed out.
type worker struct {
	api.Agent
	known   api.Known
	offered []api.Item
	lasts   int
}

// begin to work on an agent, if it is right.
func begin(a api.Agent) (*worker, api.Errno) {
	w := &worker{Agent: a}
	if e := w.check(); e != api.OK {
		return nil, e
	}
	return w, api.OK
}

// replay the log; does that tell all of it?
func (w *worker) replay() bool {
	known, whole := record.Replay(w.Log)
	w.known = known
	return whole == len(w.Log)
}

// offer what the log tells, which was replayed whole; and does what lasts of it end where a record does?
func (w *worker) offer() bool {
	if w.Lasting < 0 || w.Lasting > len(w.Log) {
		return false
	}
	lasting, whole := log.Read(w.Log[:w.Lasting])
	all, _ := log.Read(w.Log)
	byRef := map[int][]api.Label{}
	for i, s := range all {
		r, _ := record.Unpack(s)
		for _, x := range r.Refs {
			byRef[x.Ref] = x.Labels
		}
		for _, p := range r.Points {
			w.offered = append(w.offered, api.Item{Number: len(w.offered), Labels: byRef[p.Ref], Sample: api.Sample{Time: p.Time, Bits: p.Bits}})
		}
		if i < len(lasting) {
			w.lasts = len(w.offered)
		}
	}
	return whole == w.Lasting
}

// least number that waits in a shard, or Filled, if none does.
func (w *worker) least() int {
	n := w.Filled
	for _, s := range w.Shards {
		if len(s.Items) > 0 {
			n = min(n, s.Items[0].Number)
		}
	}
	return n
}
