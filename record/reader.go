package record

import (
	"strings"

	"gleaner/api"
	"gleaner/wire"
)

// reader of a record: what is not read yet.
type reader struct{ rest string }

// unpacked: the record that a text is. It gives up, if there is none of which Pack makes that text.
func unpacked(s string) api.Record {
	in := reader{rest: s}
	r := api.Record{Kind: int(in.take(1)[0])}
	switch r.Kind {
	case api.RecordSeries:
		in.each(api.MaxSeries, func() { r.Refs = append(r.Refs, in.ref()) })
	case api.RecordSamples:
		in.each(api.MaxSamples, func() { r.Points = append(r.Points, in.point()) })
	}
	refuse(in.rest != "", api.ErrForm)
	checkRecord(r)
	return r
}

// each: how many of something there are, most at most, and each of them by a function that reads it.
func (in *reader) each(most uint64, read func()) {
	n := in.number()
	refuse(n > most, api.ErrMany)
	for range n {
		read()
	}
}

func (in *reader) ref() api.Ref {
	x := api.Ref{Ref: in.refNumber()}
	in.each(api.MaxLabels, func() {
		x.Labels = append(x.Labels, api.Label{Name: in.bytes(), Value: in.bytes()})
	})
	return x
}

func (in *reader) point() api.Point {
	return api.Point{Ref: in.refNumber(), Time: in.time(), Bits: in.eight()}
}

// refNumber: one that no int can be becomes one below 0, which is no ref either.
func (in *reader) refNumber() int {
	return int(in.number())
}

// number as Number writes it: ReadNumber alone would read noughts at its end, too.
func (in *reader) number() uint64 {
	n, size, e := wire.ReadNumber(in.rest)
	refuse(e != api.OK, e)
	refuse(in.take(uint64(size)) != wire.Number(n), api.ErrForm)
	return n
}

// time: an even number is one from 0 on, an odd one below 0.
func (in *reader) time() int {
	n := in.number()
	if n%2 == 1 {
		return -int(n/2) - 1
	}
	return int(n / 2)
}

// bytes, and ahead of them how many they are. A piece of the text would keep all of it.
func (in *reader) bytes() string {
	return strings.Clone(in.take(in.number()))
}

// eight bytes of a number, the lowest first.
func (in *reader) eight() uint64 {
	s := in.take(8)
	n := uint64(0)
	for i := range 8 {
		n |= uint64(s[i]) << (8 * i)
	}
	return n
}

// take the next n bytes.
func (in *reader) take(n uint64) string {
	// A number may be greater than any int: it is held against the text's length ahead of being made one.
	refuse(n > uint64(len(in.rest)), api.ErrForm)
	s := in.rest[:n]
	in.rest = in.rest[n:]
	return s
}
