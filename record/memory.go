package record

import (
	"cmp"
	"slices"

	"gleaner/api"
	"gleaner/labels"
)

// kept: a ref, and its last time, if it has one.
type kept struct {
	ref  api.Ref
	last int
	has  bool
}

// memory of what is known: refs in the order in which they came, and where among them each is, by its number, and by the text of its labels.
type memory struct {
	all    []kept
	byRef  map[int]int
	byText map[string]int
}

func newMemory() *memory {
	return &memory{byRef: map[int]int{}, byText: map[string]int{}}
}

// recall what is known, and right.
func (m *memory) recall(k api.Known) {
	for i, x := range k.Refs {
		m.add(kept{ref: x, last: k.Lasts[i], has: k.Has[i]})
	}
}

// learn a record that is right. If it gives up, what was known is known as it was.
func (m *memory) learn(r api.Record) {
	if r.Kind == api.RecordSeries {
		m.series(r.Refs)
	} else {
		m.samples(r.Points)
	}
}

// series: those that are new are put behind the others when all are looked at.
func (m *memory) series(refs []api.Ref) {
	came := newMemory()
	for _, x := range refs {
		if !m.knows(x) && !came.knows(x) {
			came.add(kept{ref: x})
		}
	}
	refuse(len(m.all)+len(came.all) > maxKnown, api.ErrMany)
	for _, x := range came.all {
		m.add(x)
	}
}

// samples: all must be of refs that are known, ahead of any one's being the last one.
func (m *memory) samples(points []api.Point) {
	for _, p := range points {
		_, there := m.byRef[p.Ref]
		refuse(!there, api.ErrNone)
	}
	for _, p := range points {
		x := &m.all[m.byRef[p.Ref]]
		if !x.has || p.Time > x.last {
			x.last, x.has = p.Time, true
		}
	}
}

// knows: is a ref known with its labels? It gives up, if the ref is known with others, or another one with these.
func (m *memory) knows(x api.Ref) bool {
	i, there := m.byRef[x.Ref]
	j, told := m.byText[textOf(x)]
	refuse(there != told || i != j, api.ErrTwice)
	return there
}

// add what is new.
func (m *memory) add(x kept) {
	m.byRef[x.ref.Ref] = len(m.all)
	m.byText[textOf(x.ref)] = len(m.all)
	m.all = append(m.all, x)
}

// known: all of it, by number; its labels are copied, for they may be what was handed in.
func (m *memory) known() api.Known {
	rising := slices.SortedFunc(slices.Values(m.all), func(a, b kept) int { return cmp.Compare(a.ref.Ref, b.ref.Ref) })
	var k api.Known
	for _, x := range rising {
		copied, _ := labels.Make(x.ref.Labels)
		k.Refs = append(k.Refs, api.Ref{Ref: x.ref.Ref, Labels: copied})
		k.Lasts = append(k.Lasts, x.last)
		k.Has = append(k.Has, x.has)
	}
	return k
}
