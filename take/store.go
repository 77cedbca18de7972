package take

import (
	"slices"

	"gleaner/api"
	"gleaner/labels"
)

// How many series a store may have, and how many samples one of them.
const (
	maxSeries  = 500
	maxSamples = 5000
)

// tooMany: has a store too many series, or one of them too many samples?
func tooMany(l []api.Series) bool {
	return len(l) > maxSeries || slices.ContainsFunc(l, func(s api.Series) bool { return len(s.Samples) > maxSamples })
}

// checkSeries: what is wrong with a series of a store by itself.
func checkSeries(s api.Series) api.Errno {
	if e := labels.Check(s.Labels); e != api.OK {
		return e
	}
	if len(s.Samples) == 0 || slices.ContainsFunc(s.Samples, func(p api.Sample) bool { return !isTime(p.Time) }) {
		return api.ErrRange
	}
	for i, p := range s.Samples {
		if !later(s.Samples[:i], p) {
			return api.ErrState
		}
	}
	return api.OK
}

func isTime(n int) bool {
	return n >= -api.MaxTime && n <= api.MaxTime
}

// later: is a sample later than the last one of some, or would it be the first one?
func later(l []api.Sample, p api.Sample) bool {
	return len(l) == 0 || l[len(l)-1].Time < p.Time
}

func rise(l []api.Series) bool {
	for i := 1; i < len(l); i++ {
		if compare(l[i-1].Labels, l[i].Labels) >= 0 {
			return false
		}
	}
	return true
}

// compare labels that are right.
func compare(a, b []api.Label) int {
	n, _ := labels.Compare(a, b)
	return n
}

// find where in a store the series of some labels is, or would be; and whether it is there.
func find(l []api.Series, x []api.Label) (int, bool) {
	return slices.BinarySearchFunc(l, x, func(s api.Series, x []api.Label) int { return compare(s.Labels, x) })
}

// copied: a store that is right, in memory of its own.
func copied(l []api.Series) []api.Series {
	var made []api.Series
	for _, s := range l {
		own, _ := labels.Make(s.Labels)
		made = append(made, api.Series{Labels: own, Samples: slices.Clone(s.Samples)})
	}
	return made
}

// keep of a series that came the samples that are later than those of the store.
func keep(l []api.Series, x api.Series) []api.Series {
	if len(x.Samples) == 0 {
		return l
	}
	i, there := find(l, x.Labels)
	if !there {
		l = slices.Insert(l, i, api.Series{Labels: x.Labels})
	}
	for _, p := range x.Samples {
		if later(l[i].Samples, p) {
			l[i].Samples = append(l[i].Samples, p)
		}
	}
	return l
}
