package shard

import (
	"gleaner/api"
	"gleaner/labels"
)

// inBounds: are a shard's numbers what they may be?
func inBounds(s api.Shard) bool {
	return s.Batch >= 1 && s.Batch <= api.MaxSamples &&
		s.Room >= 1 && s.Room <= api.MaxRoom &&
		s.First >= 1 && s.First <= s.Most && s.Most <= api.MaxWait &&
		(s.Waits == 0 || s.Waits >= s.First && s.Waits <= s.Most) &&
		isTime(s.Till)
}

func isTime(n int) bool {
	return n >= -api.MaxTime && n <= api.MaxTime
}

// checkItem: what is wrong with an item by itself.
func checkItem(x api.Item) api.Errno {
	if x.Number < 0 || !isTime(x.Sample.Time) {
		return api.ErrRange
	}
	return labels.Check(x.Labels)
}

// fitsBehind: do the numbers rise, if an item is put behind others?
func fitsBehind(l []api.Item, x api.Item) bool {
	return len(l) == 0 || l[len(l)-1].Number < x.Number
}

// checkAt: what is wrong with a shard, or with its sending at a time.
func checkAt(s api.Shard, now int) api.Errno {
	if e := Check(s); e != api.OK {
		return e
	}
	if !isTime(now) {
		return api.ErrRange
	}
	if s.Till > now {
		return api.ErrState
	}
	return api.OK
}
