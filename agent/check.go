package agent

import (
	"slices"

	"gleaner/api"
	"gleaner/scrape"
	"gleaner/shard"
	"gleaner/take"
)

// checkNew: what is wrong with the shards of a new agent.
func checkNew(shards []api.Shard) api.Errno {
	if !mayBe(shards) {
		return api.ErrRange
	}
	if e := checkShards(shards); e != api.OK {
		return e
	}
	if slices.ContainsFunc(shards, func(s api.Shard) bool { return len(s.Items) > 0 || s.Waits != 0 || s.Till != 0 }) {
		return api.ErrState
	}
	return api.OK
}

// check what is wrong with an agent; and read its log.
func (w *worker) check() api.Errno {
	if e := checkWatches(w.Watches); e != api.OK {
		return e
	}
	if !mayBe(w.Shards) {
		return api.ErrRange
	}
	if !w.replay() {
		return api.ErrState
	}
	if !w.offer() || !w.inBounds() {
		return api.ErrRange
	}
	if w.LastCursor > w.lasts {
		return api.ErrState
	}
	if e := checkShards(w.Shards); e != api.OK {
		return e
	}
	if !w.waitsRight() {
		return api.ErrState
	}
	return take.Check(w.Store)
}

func checkWatches(l []api.Watch) api.Errno {
	if len(l) > api.MaxTargets {
		return api.ErrMany
	}
	for _, x := range l {
		if e := scrape.Check(x); e != api.OK {
			return e
		}
	}
	return api.OK
}

// mayBe: may there be so many shards?
func mayBe(l []api.Shard) bool {
	return len(l) >= 1 && len(l) <= api.MaxShards
}

func checkShards(l []api.Shard) api.Errno {
	for _, s := range l {
		if e := shard.Check(s); e != api.OK {
			return e
		}
	}
	return api.OK
}

// inBounds: are the cursors, and the time, what they may be?
func (w *worker) inBounds() bool {
	return w.LastCursor >= 0 && w.LastCursor <= w.Cursor && w.Cursor <= w.Filled && w.Filled <= len(w.offered) &&
		w.Now >= 0 && w.Now <= api.MaxTime
}

// waitsRight: does in each shard wait what may, and none below Cursor, and the one by that number, if that is below Filled? (Numbers rise in a shard, and each belongs in one alone: so none can be there twice.)
func (w *worker) waitsRight() bool {
	for i, s := range w.Shards {
		for _, x := range s.Items {
			if !w.mayWait(x, i) {
				return false
			}
		}
	}
	return w.least() == w.Cursor
}

// mayWait: may an item wait in the shard by a number?
func (w *worker) mayWait(x api.Item, which int) bool {
	if x.Number >= w.Filled {
		return false
	}
	y := w.offered[x.Number]
	return slices.Equal(x.Labels, y.Labels) && x.Sample == y.Sample && w.shardOf(y) == which
}

// shardOf an item that is offered.
func (w *worker) shardOf(x api.Item) int {
	// It has no error: the labels, and how many shards there are, are right.
	i, _ := shard.Which(x.Labels, len(w.Shards))
	return i
}
