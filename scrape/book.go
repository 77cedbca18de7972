package scrape

import (
	"slices"

	"gleaner/api"
	"gleaner/labels"
)

// series that has a ref: its last time, if it has one, and whether it was seen now.
type series struct {
	ref, last int
	has, seen bool
}

// book of a scrape: what is known, and the new series behind it; where among them each is, by the text of its labels; and what comes of the scrape.
type book struct {
	known         []series
	byText        map[string]int
	seen          [][]api.Label
	refs          []api.Ref
	points        []api.Point
	late, dropped int
}

// newBook of what is known, and right.
func newBook(k api.Known) *book {
	b := &book{byText: map[string]int{}}
	for i, x := range k.Refs {
		b.add(x.Labels, series{ref: x.Ref, last: k.Lasts[i], has: k.Has[i]})
	}
	return b
}

// sample of a series that was seen, by its labels, if it is not late.
func (b *book) sample(l []api.Label, time int, bits uint64) {
	i, there := b.find(l)
	if !there {
		i = b.give(l)
	}
	s := &b.known[i]
	if !s.seen {
		s.seen = true
		b.seen = append(b.seen, l)
	}
	if s.has && time <= s.last {
		b.late++
		return
	}
	s.last, s.has = time, true
	b.points = append(b.points, api.Point{Ref: s.ref, Time: time, Bits: bits})
}

// find where a series is, if it is known, or new.
func (b *book) find(l []api.Label) (int, bool) {
	// The text of no labels is that of a series, too, which there may be.
	if len(l) == 0 {
		return 0, false
	}
	i, there := b.byText[textOf(l)]
	return i, there
}

// give a new series its ref: above all others is above the last one, for they rise.
func (b *book) give(l []api.Label) int {
	ref := 1
	if n := len(b.known); n > 0 {
		ref = b.known[n-1].ref + 1
	}
	failIf(ref > api.MaxRef)
	b.refs = append(b.refs, api.Ref{Ref: ref, Labels: copied(l)})
	return b.add(l, series{ref: ref})
}

// add a series behind the others; where is it?
func (b *book) add(l []api.Label, s series) int {
	i := len(b.known)
	b.byText[textOf(l)] = i
	b.known = append(b.known, s)
	return i
}

// stale: of some series those that are known, and were not seen now, end now.
func (b *book) stale(was [][]api.Label, now int) {
	for _, l := range was {
		i, there := b.find(l)
		if !there {
			continue
		}
		s := b.known[i]
		if !s.seen && (!s.has || s.last < now) {
			b.points = append(b.points, api.Point{Ref: s.ref, Time: now, Bits: api.BitsStale})
		}
	}
}

// mustFit: what is to be logged must go into a record of series, and one of samples.
func (b *book) mustFit() {
	failIf(len(b.points) > api.MaxSamples || len(b.refs) > api.MaxSeries)
}

// cut what is to be logged to what goes into a record.
func (b *book) cut() {
	b.points = b.points[:min(len(b.points), api.MaxSamples)]
}

// outcome of the scrape.
func (b *book) outcome(t api.Target, failed bool) api.Outcome {
	slices.SortFunc(b.seen, compare)
	return api.Outcome{
		Watch:   api.Watch{Target: api.Target{Labels: copied(t.Labels)}, Seen: b.seen},
		Series:  api.Record{Kind: api.RecordSeries, Refs: b.refs},
		Samples: api.Record{Kind: api.RecordSamples, Points: b.points},
		Late:    b.late,
		Dropped: b.dropped,
		Failed:  failed,
	}
}

// copied labels, which are right.
func copied(l []api.Label) []api.Label {
	made, _ := labels.Make(l)
	return made
}

// textOf labels that are right.
func textOf(l []api.Label) string {
	text, _ := labels.Text(l)
	return text
}
