package agent_test

import (
	"slices"
	"strconv"
	"unsafe"

	"gleaner/api"
	"gleaner/labels"
)

// deep: a copy of an agent that shares no list with it.
func deep(a api.Agent) api.Agent {
	a.Watches = slices.Clone(a.Watches)
	for i, x := range a.Watches {
		a.Watches[i].Target.Labels = slices.Clone(x.Target.Labels)
		a.Watches[i].Seen = slices.Clone(x.Seen)
		for j, l := range x.Seen {
			a.Watches[i].Seen[j] = slices.Clone(l)
		}
	}
	a.Shards = slices.Clone(a.Shards)
	for i, s := range a.Shards {
		a.Shards[i].Items = slices.Clone(s.Items)
		for j, x := range s.Items {
			a.Shards[i].Items[j].Labels = slices.Clone(x.Labels)
		}
	}
	a.Store = slices.Clone(a.Store)
	for i, x := range a.Store {
		a.Store[i] = api.Series{Labels: slices.Clone(x.Labels), Samples: slices.Clone(x.Samples)}
	}
	return a
}

// sorted: series in a store's order.
func sorted(l []api.Series) []api.Series {
	slices.SortFunc(l, func(a, b api.Series) int {
		n, _ := labels.Compare(a.Labels, b.Labels)
		return n
	})
	return l
}

// lies: is a text a piece of another one?
func lies(s, in string) bool {
	at, from := uintptr(unsafe.Pointer(unsafe.StringData(s))), uintptr(unsafe.Pointer(unsafe.StringData(in)))
	return len(s) > 0 && at >= from && at < from+uintptr(len(in))
}

// every list of labels of an agent.
func every(a api.Agent) [][]api.Label {
	var all [][]api.Label
	for _, w := range a.Watches {
		all = append(append(all, w.Target.Labels), w.Seen...)
	}
	for _, s := range a.Shards {
		for _, x := range s.Items {
			all = append(all, x.Labels)
		}
	}
	for _, s := range a.Store {
		all = append(all, s.Labels)
	}
	return all
}

// texts of lists of labels.
func texts(lists ...[]api.Label) []string {
	var all []string
	for _, l := range lists {
		for _, x := range l {
			all = append(all, x.Name, x.Value)
		}
	}
	return all
}

// roomy: an agent as another one, with room behind each list, in which something lies.
func roomy(a api.Agent) api.Agent {
	a = deep(a)
	spare := func(l []api.Label) []api.Label { return append(l, of("spare", "spare")...)[:len(l)] }
	for i, w := range a.Watches {
		for j, l := range w.Seen {
			w.Seen[j] = spare(l)
		}
		a.Watches[i].Target.Labels = spare(w.Target.Labels)
		a.Watches[i].Seen = append(w.Seen, of("spare", "spare"))[:len(w.Seen)]
	}
	for i, s := range a.Shards {
		for j, x := range s.Items {
			s.Items[j].Labels = spare(x.Labels)
		}
		a.Shards[i].Items = append(s.Items, api.Item{Number: 99})[:len(s.Items)]
	}
	for i, s := range a.Store {
		a.Store[i] = api.Series{Labels: spare(s.Labels), Samples: append(s.Samples, api.Sample{Time: 99})[:len(s.Samples)]}
	}
	a.Watches = append(a.Watches, api.Watch{Target: target("spare", "spare")})[:len(a.Watches)]
	a.Shards = append(a.Shards, api.Shard{Batch: 99})[:len(a.Shards)]
	a.Store = append(a.Store, api.Series{Labels: of("spare", "spare")})[:len(a.Store)]
	return a
}

// grown: every list of a roomy agent, with what lies behind it.
func grown(a api.Agent) []any {
	all := []any{a, a.Watches[:len(a.Watches)+1], a.Shards[:len(a.Shards)+1], a.Store[:len(a.Store)+1]}
	for _, w := range a.Watches {
		all = append(all, w.Seen[:len(w.Seen)+1])
	}
	for _, s := range a.Shards {
		all = append(all, s.Items[:len(s.Items)+1])
	}
	for _, s := range a.Store {
		all = append(all, s.Samples[:len(s.Samples)+1])
	}
	for _, l := range every(a) {
		all = append(all, l[:len(l)+1])
	}
	return all
}

// spoil: every list of an agent has other things in it then, and behind it as far as there is room.
func spoil(a api.Agent) {
	for _, l := range every(a) {
		clear(l[:cap(l)])
	}
	for _, w := range a.Watches {
		clear(w.Seen[:cap(w.Seen)])
	}
	for _, s := range a.Shards {
		clear(s.Items[:cap(s.Items)])
	}
	for _, s := range a.Store {
		clear(s.Samples[:cap(s.Samples)])
	}
	clear(a.Watches[:cap(a.Watches)])
	clear(a.Shards[:cap(a.Shards)])
	clear(a.Store[:cap(a.Store)])
}

// overlap: can what is done to one list of an agent, or behind it, be seen in another one?
func overlap(a api.Agent) bool {
	was := deep(a)
	for _, l := range every(a) {
		_ = append(l, of("other", "other")...)
	}
	for _, w := range a.Watches {
		_ = append(w.Seen, of("other", "other"))
	}
	for _, s := range a.Shards {
		_ = append(s.Items, api.Item{Number: 99})
	}
	for _, s := range a.Store {
		_ = append(s.Samples, api.Sample{Time: 99})
	}
	if !same(a, was) {
		return true
	}
	for i, l := range every(a) {
		for j := range l {
			l[j] = api.Label{Name: strconv.Itoa(i), Value: strconv.Itoa(j)}
		}
	}
	for i, l := range every(a) {
		for j, x := range l {
			if x.Name != strconv.Itoa(i) || x.Value != strconv.Itoa(j) {
				return true
			}
		}
	}
	for i, s := range a.Store {
		for j := range s.Samples {
			s.Samples[j] = api.Sample{Time: i, Bits: uint64(j)}
		}
	}
	for i, s := range a.Store {
		for j, p := range s.Samples {
			if p.Time != i || p.Bits != uint64(j) {
				return true
			}
		}
	}
	return false
}
