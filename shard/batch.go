package shard

import (
	"gleaner/api"
	"gleaner/labels"
	"gleaner/press"
	"gleaner/wire"
)

// ahead: how many of the items of a shard go next, and how they are packed.
func ahead(s api.Shard) (int, string) {
	for n := min(s.Batch, len(s.Items)); n > 0; n /= 2 {
		if text, e := packed(s.Items[:n]); e == api.OK {
			return n, text
		}
	}
	// None wait: one alone is never too long.
	return 0, ""
}

// packed items, if they are not too long.
func packed(l []api.Item) (string, api.Errno) {
	var series []api.Series
	for _, x := range l {
		series = append(series, api.Series{Labels: x.Labels, Samples: []api.Sample{x.Sample}})
	}
	text, e := wire.Write(series)
	if e != api.OK {
		return "", e
	}
	return press.Pack(text)
}

// longer: how long a shard waits when one more failed.
func longer(s api.Shard) int {
	if s.Waits == 0 {
		return s.First
	}
	return min(2*s.Waits, s.Most)
}

// copied items, which are right: they share no memory with those that were handed in.
func copied(l []api.Item) []api.Item {
	var made []api.Item
	for _, x := range l {
		x.Labels, _ = labels.Make(x.Labels)
		made = append(made, x)
	}
	return made
}
