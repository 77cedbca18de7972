package wire

import "gleaner/api"

// writer of fields: what it has written so far.
type writer struct{ text []byte }

// add gives up as soon as there is too much: what a field holds is never longer than the text that it comes to, so no more is built than may be answered.
func (w *writer) add(s string) {
	most(len(w.text)+len(s), api.MaxText)
	w.text = append(w.text, s...)
}

func (w *writer) number(n uint64) {
	w.add(Number(n))
}

// bytes is a field of wire type 2.
func (w *writer) bytes(head uint64, s string) {
	w.number(head)
	w.number(uint64(len(s)))
	w.add(s)
}

// within is a field of wire type 2, whose bytes are what fill writes: how many they are stands ahead of them.
func (w *writer) within(head uint64, fill func(in *writer)) {
	var in writer
	fill(&in)
	w.bytes(head, string(in.text))
}

func (w *writer) series(l []api.Series) {
	for _, s := range l {
		w.within(headSeries, func(in *writer) {
			in.labels(s.Labels)
			in.samples(s.Samples)
		})
	}
}

func (w *writer) labels(l []api.Label) {
	for _, x := range l {
		w.within(headLabel, func(in *writer) {
			in.bytes(headName, x.Name)
			in.bytes(headValue, x.Value)
		})
	}
}

func (w *writer) samples(l []api.Sample) {
	for _, p := range l {
		w.within(headSample, func(in *writer) {
			in.number(headBits)
			in.eight(p.Bits)
			in.number(headTime)
			in.number(uint64(p.Time))
		})
	}
}

// eight bytes of a number, the lowest first.
func (w *writer) eight(n uint64) {
	var b [8]byte
	for i := range b {
		b[i] = byte(n >> (8 * i))
	}
	w.add(string(b[:]))
}
