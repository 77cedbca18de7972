package wire_test

import (
	"math/rand"
	"reflect"
	"strings"
	"testing"
	"unsafe"

	"gleaner/api"
	"gleaner/wire"
)

func someText(r *rand.Rand, most int) string {
	b := make([]byte, r.Intn(most+1))
	r.Read(b)
	return string(b)
}

func someTime(r *rand.Rand) int {
	switch r.Intn(4) {
	case 0:
		return r.Intn(300) - 150
	case 1:
		return api.MaxTime - r.Intn(3)
	case 2:
		return r.Intn(3) - api.MaxTime
	}
	return r.Intn(2*api.MaxTime+1) - api.MaxTime
}

func someSeries(r *rand.Rand) []api.Series {
	var l []api.Series
	for range r.Intn(6) {
		var s api.Series
		for range r.Intn(5) {
			s.Labels = append(s.Labels, api.Label{Name: someText(r, 10), Value: someText(r, 150)})
		}
		for range r.Intn(6) {
			s.Samples = append(s.Samples, api.Sample{Time: someTime(r), Bits: r.Uint64()})
		}
		l = append(l, s)
	}
	return l
}

// A4: what is written is read as it was.
func TestWrittenIsRead(t *testing.T) {
	r := rand.New(rand.NewSource(1))
	for range 2000 {
		l := someSeries(r)
		s, e := wire.Write(l)
		if e != api.OK {
			t.Fatalf("Write of %v is %d", l, e)
		}
		if m, e := wire.Read(s); !same(l, m) || e != api.OK {
			t.Fatalf("%v is read as %v %d", l, m, e)
		}
	}
	full := make([]api.Series, api.MaxSeries)
	for i := range full {
		full[i].Labels = labels("name", strings.Repeat("v", i/3))
		full[i].Samples = samples(i, i+1)
	}
	s, e := wire.Write(full)
	m, f := wire.Read(s)
	if e != api.OK || f != api.OK || !same(full, m) {
		t.Errorf("MaxSeries of them: %d %d", e, f)
	}
}

// P1: whatever is handed in is answered, and what is none has nothing; P3: by the same, each time.
func TestReadAnything(t *testing.T) {
	r := rand.New(rand.NewSource(2))
	heads := []byte{0x0a, 0x12, 0x09, 0x10, 0x0d, 0x00, 0x01, 0x02, 0x80, 0xff}
	for range 60000 {
		b := []byte(someText(r, 40))
		if r.Intn(2) == 0 {
			for i := range b {
				b[i] = heads[r.Intn(len(heads))]
			}
		} else if s, e := wire.Write(someSeries(r)); e == api.OK && len(s) > 0 {
			b = []byte(s)
			b[r.Intn(len(b))] ^= byte(1 << r.Intn(8))
		}
		s := string(b)
		l, e := wire.Read(s)
		m, f := wire.Read(s)
		if e != f || !same(l, m) {
			t.Fatalf("%x is read in two ways", s)
		}
		if e != api.OK && l != nil || e != api.OK && e != api.ErrForm && e != api.ErrMany && e != api.ErrRange {
			t.Fatalf("%x: %v %d", s, l, e)
		}
		if e == api.OK {
			again(t, l)
		}
	}
}

// again: what was read can be written, and is read as that (A4).
func again(t *testing.T, l []api.Series) {
	t.Helper()
	s, e := wire.Write(l)
	if e == api.ErrMany {
		return
	}
	if m, f := wire.Read(s); e != api.OK || f != api.OK || !same(l, m) {
		t.Fatalf("%v is read again as %v %d %d", l, m, e, f)
	}
}

// P2: what is handed in is only read, the spare room behind it too.
func TestWriteOnlyReads(t *testing.T) {
	make2 := func() []api.Series {
		l := []api.Series{{Labels: labels("a", "b", "c", "d", "e", "f"), Samples: samples(1, 2, 3)}, {Samples: samples(4)}, {Labels: labels("g", "h")}}
		l[0].Labels, l[0].Samples = l[0].Labels[:1], l[0].Samples[:1]
		return l[:2]
	}
	l, kept := make2(), make2()
	s, e := wire.Write(l)
	if e != api.OK {
		t.Fatal(e)
	}
	if !reflect.DeepEqual(l[:3], kept[:3]) || !reflect.DeepEqual(l[0].Labels[:3], kept[0].Labels[:3]) || !reflect.DeepEqual(l[0].Samples[:3], kept[0].Samples[:3]) {
		t.Errorf("Write changes what it was handed: %v", l)
	}
	before := strings.Clone(s)
	l[0].Labels[0].Value, l[0].Samples[0].Time = "other", 99
	if s != before {
		t.Error("a later change is seen")
	}
}

// P2: no two lists of an answer share memory, spare room and all; its texts are new.
func TestReadIsNew(t *testing.T) {
	s, e := wire.Write([]api.Series{{Labels: labels("a", "b", "c", "d"), Samples: samples(1, 2, 3)}, {Labels: labels("e", "f"), Samples: samples(4)}, {}})
	if e != api.OK {
		t.Fatal(e)
	}
	l, _ := wire.Read(s)
	kept, _ := wire.Read(s)
	for i := range l {
		x := append(l[i].Labels, labels("x", "y", "x", "y", "x", "y")...)
		y := append(l[i].Samples, samples(7, 7, 7, 7, 7)...)
		if len(x) < 3 || len(y) < 5 || !same(l, kept) {
			t.Fatalf("lists share memory: %v", l)
		}
	}
	from := uintptr(unsafe.Pointer(unsafe.StringData(s)))
	at := uintptr(unsafe.Pointer(unsafe.StringData(l[0].Labels[0].Name)))
	if at >= from && at < from+uintptr(len(s)) {
		t.Error("a name is a piece of the text that was read")
	}
}
