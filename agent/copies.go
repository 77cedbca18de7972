package agent

import (
	"slices"
	"strings"

	"gleaner/api"
	"gleaner/labels"
)

// unseen: a watch of a target, of which nothing was seen.
func unseen(t api.Target) api.Watch {
	return api.Watch{Target: api.Target{Labels: copiedLabels(t.Labels)}}
}

// idle: a shard as it is when nothing waits in it, and nothing failed.
func idle(s api.Shard) api.Shard {
	s.Items, s.Waits, s.Till = nil, 0, 0
	return s
}

// copied: an agent that is right, in memory of its own.
func copied(a api.Agent) api.Agent {
	watches, shards, store := a.Watches, a.Shards, a.Store
	a.Watches, a.Shards, a.Store = nil, nil, nil
	a.Log = strings.Clone(a.Log)
	for _, x := range watches {
		y := unseen(x.Target)
		for _, l := range x.Seen {
			y.Seen = append(y.Seen, copiedLabels(l))
		}
		a.Watches = append(a.Watches, y)
	}
	for _, s := range shards {
		s.Items = copiedItems(s.Items)
		a.Shards = append(a.Shards, s)
	}
	for _, x := range store {
		a.Store = append(a.Store, api.Series{Labels: copiedLabels(x.Labels), Samples: slices.Clone(x.Samples)})
	}
	return a
}

// copiedItems: items that are right.
func copiedItems(l []api.Item) []api.Item {
	var made []api.Item
	for _, x := range l {
		x.Labels = copiedLabels(x.Labels)
		made = append(made, x)
	}
	return made
}

// copiedLabels: labels that are right; their texts are copied, too.
func copiedLabels(l []api.Label) []api.Label {
	made, _ := labels.Make(l)
	return made
}
