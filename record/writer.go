package record

import (
	"gleaner/api"
	"gleaner/wire"
)

// writer of a record: what it has written so far.
type writer struct{ text []byte }

// record that is right: it has refs, or points, as its kind says.
func (w *writer) record(r api.Record) {
	w.text = append(w.text, byte(r.Kind))
	if r.Kind == api.RecordSeries {
		w.refs(r.Refs)
	} else {
		w.points(r.Points)
	}
}

func (w *writer) refs(l []api.Ref) {
	w.number(len(l))
	for _, x := range l {
		w.number(x.Ref)
		w.number(len(x.Labels))
		for _, y := range x.Labels {
			w.bytes(y.Name)
			w.bytes(y.Value)
		}
	}
}

func (w *writer) points(l []api.Point) {
	w.number(len(l))
	for _, p := range l {
		w.number(p.Ref)
		w.time(p.Time)
		w.eight(p.Bits)
	}
}

// number that is not below 0.
func (w *writer) number(n int) {
	w.text = append(w.text, wire.Number(uint64(n))...)
}

// time: one from 0 on is an even number, one below 0 an odd one.
func (w *writer) time(n int) {
	if n < 0 {
		w.number(-2*n - 1)
	} else {
		w.number(2 * n)
	}
}

// bytes, and ahead of them how many they are.
func (w *writer) bytes(s string) {
	w.number(len(s))
	w.text = append(w.text, s...)
}

// eight bytes of a number, the lowest first.
func (w *writer) eight(n uint64) {
	for i := range 8 {
		w.text = append(w.text, byte(n>>(8*i)))
	}
}
