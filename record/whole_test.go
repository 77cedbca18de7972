package record_test

import (
	"cmp"
	"encoding/binary"
	"math/rand"
	"reflect"
	"slices"
	"strings"
	"testing"
	"unsafe"

	"gleaner/api"
	"gleaner/labels"
	"gleaner/record"
)

// asPacked: a record's bytes, by the library's numbers.
func asPacked(r api.Record) string {
	b := []byte{byte(r.Kind)}
	text := func(s string) { b = append(binary.AppendUvarint(b, uint64(len(s))), s...) }
	if r.Kind == api.RecordSeries {
		b = binary.AppendUvarint(b, uint64(len(r.Refs)))
		for _, x := range r.Refs {
			b = binary.AppendUvarint(b, uint64(x.Ref))
			b = binary.AppendUvarint(b, uint64(len(x.Labels)))
			for _, y := range x.Labels {
				text(y.Name)
				text(y.Value)
			}
		}
		return string(b)
	}
	b = binary.AppendUvarint(b, uint64(len(r.Points)))
	for _, p := range r.Points {
		b = binary.AppendUvarint(b, uint64(p.Ref))
		b = binary.AppendVarint(b, int64(p.Time))
		b = binary.LittleEndian.AppendUint64(b, p.Bits)
	}
	return string(b)
}

// asUnpacked: what stands in a text, if its numbers are taken as they come; and what is not there is 0.
func asUnpacked(s string) api.Record {
	b := []byte(s)
	past := func(size int) {
		if size <= 0 { // no number: so nothing more stands there
			size = len(b)
		}
		b = b[size:]
	}
	number := func() int {
		n, size := binary.Uvarint(b)
		past(size)
		return int(n)
	}
	text := func() string {
		n := number()
		if n < 0 || n > len(b) {
			n = len(b)
		}
		x := string(b[:n])
		b = b[n:]
		return x
	}
	var r api.Record
	if len(b) > 0 {
		r.Kind, b = int(b[0]), b[1:]
	}
	for n := number(); n > 0 && len(b) > 0; n-- {
		if r.Kind == api.RecordSeries {
			x := api.Ref{Ref: number()}
			for m := number(); m > 0 && len(b) > 0; m-- {
				x.Labels = append(x.Labels, api.Label{Name: text(), Value: text()})
			}
			r.Refs = append(r.Refs, x)
		} else {
			p := api.Point{Ref: number()}
			time, size := binary.Varint(b)
			past(size)
			p.Time = int(time)
			if len(b) < 8 {
				return r
			}
			p.Bits, b = binary.LittleEndian.Uint64(b), b[8:]
			r.Points = append(r.Points, p)
		}
	}
	return r
}

// wrongRef: what is wrong with one.
func wrongRef(x api.Ref) api.Errno {
	switch {
	case x.Ref < 1 || x.Ref > 1000000:
		return api.ErrRange
	case len(x.Labels) == 0:
		return api.ErrForm
	}
	return labels.Check(x.Labels)
}

func isTime(n int) bool { return n >= -api.MaxTime && n <= api.MaxTime }

// wrongRecord: what Pack must say.
func wrongRecord(r api.Record) api.Errno {
	switch {
	case r.Kind < 1 || r.Kind > 2:
		return api.ErrKind
	case r.Kind == 1 && len(r.Points) > 0, r.Kind == 2 && len(r.Refs) > 0:
		return api.ErrForm
	case len(r.Refs) > 200, len(r.Points) > 200:
		return api.ErrMany
	}
	for _, x := range r.Refs {
		if e := wrongRef(x); e != api.OK {
			return e
		}
	}
	for _, p := range r.Points {
		if p.Ref < 1 || p.Ref > 1000000 || !isTime(p.Time) {
			return api.ErrRange
		}
	}
	return api.OK
}

// wrongWithKnown: what Check must say.
func wrongWithKnown(k api.Known) api.Errno {
	if len(k.Lasts) != len(k.Refs) || len(k.Has) != len(k.Refs) {
		return api.ErrForm
	}
	for i, x := range k.Refs {
		if e := wrongRef(x); e != api.OK {
			return e
		}
		switch {
		case !isTime(k.Lasts[i]):
			return api.ErrRange
		case !k.Has[i] && k.Lasts[i] != 0:
			return api.ErrForm
		case i > 0 && k.Refs[i-1].Ref >= x.Ref:
			return api.ErrState
		}
	}
	for i, x := range k.Refs {
		for _, y := range k.Refs[:i] {
			if slices.Equal(x.Labels, y.Labels) {
				return api.ErrTwice
			}
		}
	}
	return api.OK
}

// one: a ref that is known, with its last time.
type one struct {
	x    api.Ref
	last int
	has  bool
}

// asLearnt: what Learn must say.
func asLearnt(k api.Known, r api.Record) (api.Known, api.Errno) {
	if e := cmp.Or(wrongWithKnown(k), wrongRecord(r)); e != api.OK {
		return api.Known{}, e
	}
	var all []one
	for i, x := range k.Refs {
		all = append(all, one{x, k.Lasts[i], k.Has[i]})
	}
	for _, x := range r.Refs {
		met := false
		for _, y := range all {
			if (y.x.Ref == x.Ref) != slices.Equal(y.x.Labels, x.Labels) {
				return api.Known{}, api.ErrTwice
			}
			met = met || y.x.Ref == x.Ref
		}
		if !met {
			all = append(all, one{x: x})
		}
	}
	for _, p := range r.Points {
		i := slices.IndexFunc(all, func(y one) bool { return y.x.Ref == p.Ref })
		if i < 0 {
			return api.Known{}, api.ErrNone
		}
		if !all[i].has || p.Time > all[i].last {
			all[i].last, all[i].has = p.Time, true
		}
	}
	slices.SortFunc(all, func(a, b one) int { return a.x.Ref - b.x.Ref })
	var m api.Known
	for _, y := range all {
		m.Refs, m.Lasts, m.Has = append(m.Refs, y.x), append(m.Lasts, y.last), append(m.Has, y.has)
	}
	return m, api.OK
}

func pick[T any](r *rand.Rand, of ...T) T { return of[r.Intn(len(of))] }

// someLabels: few, so that they come again; now and then wrong ones.
func someLabels(r *rand.Rand) []api.Label {
	if r.Intn(200) == 0 {
		return pick(r, nil, of("1", "x"), of("a", ""), of("a", strings.Repeat("v", 101)), of("a", "x", "a", "x"), of("b", "x", "a", "x"), many(21, "v"))
	}
	return pick(r, of("a", "x"), of("a", "y"), of("b", "x"), of("a", "x", "b", "x"), of("__name__", "{}"), of("__name__", "a", "b", "c"), of("__name__", `a{b="c"}`), of("a", `x",b="x`))
}

func someRef(r *rand.Rand) int {
	if r.Intn(200) == 0 {
		return pick(r, 0, -1, 1000001, 1<<63-1, -1<<63)
	}
	return pick(r, 1, 2, 3, 4, 127, 128, 1000000)
}

func someTime(r *rand.Rand) int {
	if r.Intn(200) == 0 {
		return pick(r, api.MaxTime+1, -api.MaxTime-1, 1<<63-1, -1<<63)
	}
	return pick(r, 0, 1, -1, 5, -5, 64, -64, 3, r.Intn(1000)-500, api.MaxTime, -api.MaxTime)
}

// some record, which can be learnt often enough.
func some(r *rand.Rand) api.Record {
	var x api.Record
	x.Kind = 1 + r.Intn(2)
	for range r.Intn(5) {
		if x.Kind == api.RecordSeries {
			n := someRef(r)
			l := someLabels(r)
			if r.Intn(4) > 0 && n > 0 && n < 1000 {
				l = of("n", number(n))
			}
			x.Refs = append(x.Refs, api.Ref{Ref: n, Labels: l})
		} else {
			x.Points = append(x.Points, point(someRef(r), someTime(r), r.Uint64()))
		}
	}
	if r.Intn(100) == 0 {
		x.Kind = r.Intn(5) - 1
	}
	return x
}

// someKnown: what some records told, now and then marred.
func someKnown(r *rand.Rand) api.Known {
	var k api.Known
	for range r.Intn(5) {
		if m, e := asLearnt(k, some(r)); e == api.OK {
			k = m
		}
	}
	if len(k.Refs) > 0 && r.Intn(20) == 0 {
		i := r.Intn(len(k.Refs))
		switch r.Intn(5) {
		case 0:
			k.Refs[i].Ref = someRef(r)
		case 1:
			k.Refs[i].Labels = someLabels(r)
		case 2:
			k.Lasts[i] = someTime(r)
		case 3:
			k.Has[i] = !k.Has[i]
		case 4:
			k.Lasts = k.Lasts[:i]
		}
	}
	return k
}

// marred: a text with a byte or two that are others, or more, or gone.
func marred(r *rand.Rand, s string) string {
	b := []byte(s)
	for range 1 + r.Intn(2) {
		i, c := r.Intn(len(b)+1), pick(r, 0, 1, 2, 3, 127, 128, 255, 'a', byte(r.Intn(256)))
		switch {
		case i == len(b) || r.Intn(3) == 0:
			b = slices.Insert(b, i, c)
		case r.Intn(2) == 0:
			b = slices.Delete(b, i, i+1)
		default:
			b[i] = c
		}
	}
	return string(b)
}

// I1, I2 and I6: many records, packed and unpacked; and many texts, of which few are records.
func TestAsItStands(t *testing.T) {
	r := rand.New(rand.NewSource(1))
	for range 30000 {
		x := some(r)
		s, e := record.Pack(x)
		if want := wrongRecord(x); e != want || e == api.OK && s != asPacked(x) || e != api.OK && s != "" {
			t.Fatalf("%v: it is %x %d, not %x %d", x, s, e, asPacked(x), want)
		}
		if e == api.OK {
			if y, e := record.Unpack(s); !same(x, y) || e != api.OK {
				t.Fatalf("%v is unpacked to %v %d", x, y, e)
			}
		}
		s = marred(r, asPacked(x))
		want := asUnpacked(s)
		is := wrongRecord(want) == api.OK && asPacked(want) == s
		y, e := record.Unpack(s)
		if is && (e != api.OK || !same(y, want)) || !is && (e != api.ErrForm || !same(y, api.Record{})) {
			t.Fatalf("%x: it is %v %d, not %v", s, y, e, want)
		}
	}
}

// I3 and I4: what is known, and learnt.
func TestAsLearnt(t *testing.T) {
	r := rand.New(rand.NewSource(2))
	met := map[api.Errno]int{}
	for range 40000 {
		k, x := someKnown(r), some(r)
		if e, want := record.Check(k), wrongWithKnown(k); e != want {
			t.Fatalf("%v: it is %d, not %d", k, e, want)
		}
		m, e := record.Learn(k, x)
		want, wrong := asLearnt(k, x)
		if !sameKnown(m, want) || e != wrong {
			t.Fatalf("%v behind %v: it is %v %d, not %v %d", x, k, m, e, want, wrong)
		}
		if met[e]++; e == api.OK {
			learns(t, m, x, m)
		}
	}
	for e := api.OK; e <= api.ErrKind; e++ {
		if met[e] == 0 {
			t.Errorf("%d is never met", e)
		}
	}
}

// I5: logs of many records, and texts that are none, cut off anywhere.
func TestAsReplayed(t *testing.T) {
	r := rand.New(rand.NewSource(3))
	for range 3000 {
		var texts []string
		var k api.Known
		learnt, on := 0, true
		knowns := []api.Known{k}
		for range r.Intn(8) {
			s := asPacked(some(r))
			if r.Intn(20) == 0 {
				s = marred(r, s)
			}
			m, e := api.Known{}, api.ErrForm
			if x := asUnpacked(s); wrongRecord(x) == api.OK && asPacked(x) == s {
				m, e = asLearnt(k, x)
			}
			if e != api.OK && r.Intn(8) > 0 {
				continue
			}
			texts = append(texts, s)
			if on = on && e == api.OK; on {
				k, learnt = m, learnt+1
				knowns = append(knowns, k)
			}
		}
		s, ends := logged(t, texts...)
		replays(t, s, k, ends[learnt])
		n := r.Intn(len(s) + 1)
		whole := 0
		for whole < learnt && ends[whole+1] <= n {
			whole++
		}
		replays(t, s[:n], knowns[whole], ends[whole])
	}
}

// P1: whatever is handed in is answered. P3: by the same, each time.
func TestAnything(t *testing.T) {
	r := rand.New(rand.NewSource(4))
	for range 20000 {
		b := make([]byte, r.Intn(60))
		r.Read(b)
		if len(b) > 1 && r.Intn(2) == 0 {
			b[0], b[1] = byte(1+r.Intn(2)), byte(r.Intn(4))
		}
		k, x := someKnown(r), some(r)
		for _, s := range []string{string(b), marred(r, asPacked(x)), part(1, string(b)), part(1, asPacked(x)) + part(1, string(b))} {
			all := func() []any {
				y, e := record.Unpack(s)
				if e != api.OK && (e != api.ErrForm || !same(y, api.Record{})) {
					t.Fatalf("%x is %v %d", s, y, e)
				}
				m, f := record.Learn(k, y)
				z, n := record.Replay(s)
				if n < 0 || n > len(s) || record.Check(z) != api.OK {
					t.Fatalf("%x is replayed to %v %d", s, z, n)
				}
				p, g := record.Pack(y)
				return []any{y, e, m, f, z, n, p, g}
			}
			if a, b := all(), all(); !reflect.DeepEqual(a, b) {
				t.Fatalf("%x: %v, and then %v", s, a, b)
			}
		}
	}
	for _, s := range []string{strings.Repeat("\xff", 100000), "\x01" + strings.Repeat("\xff", 9) + "\x01" + strings.Repeat("\x01\x00", 50000), "\x02" + strings.Repeat("\x80", 100000)} {
		none(t, "a long text", s)
	}
}

// P2: what is handed in is only read, the spare room behind it too.
func TestOnlyRead(t *testing.T) {
	fresh := func() (api.Known, api.Record, api.Record) {
		l := append(of("d", "x", "e", "y"), of("f", "z")...)
		x := []api.Ref{{Ref: 9, Labels: l[:1]}, ref(3, "a", "9"), ref(8, "z", "z"), ref(1, "a", "1")}
		k := with(with(with(with(api.Known{}, ref(1, "a", "1"), 5), ref(5, "b", "2"), 5), ref(7, "c", "3"), 5), ref(0), 5)
		k.Refs, k.Lasts, k.Has = k.Refs[:3], k.Lasts[:3], k.Has[:3]
		p := []api.Point{point(7, 9, 1), point(1, 8, 1), point(5, 1, 1), point(1, 99, 1)}
		return k, series(x[:2]...), samples(p[:3]...)
	}
	k, x, y := fresh()
	l, m, n := fresh()
	for _, r := range []api.Record{x, y} {
		if _, e := record.Learn(k, r); e != api.OK {
			t.Fatalf("it is %d", e)
		}
		record.Pack(r)
	}
	record.Check(k)
	if !reflect.DeepEqual(k.Refs[:4], l.Refs[:4]) || !reflect.DeepEqual(k.Lasts[:4], l.Lasts[:4]) || !reflect.DeepEqual(k.Has[:4], l.Has[:4]) {
		t.Errorf("what was known became %v", k)
	}
	if !reflect.DeepEqual(x.Refs[:4], m.Refs[:4]) || !reflect.DeepEqual(y.Points[:4], n.Points[:4]) || !reflect.DeepEqual(x.Refs[0].Labels[:3], m.Refs[0].Labels[:3]) {
		t.Errorf("the records became %v, %v", x, y)
	}
}

// lies: is a text a piece of another one?
func lies(s, in string) bool {
	at, from := uintptr(unsafe.Pointer(unsafe.StringData(s))), uintptr(unsafe.Pointer(unsafe.StringData(in)))
	return len(s) > 0 && at >= from && at < from+uintptr(len(in))
}

// P2: what Unpack answers is new memory; no two lists of it share memory.
func TestNewOfUnpack(t *testing.T) {
	x := series(ref(1, "aa", "xx", "bb", "yy"), ref(2, "cc", "zz"), ref(3, "dd", "ww"))
	s := packed(t, x)
	r, _ := record.Unpack(s)
	for _, y := range r.Refs {
		for _, z := range y.Labels {
			if lies(z.Name, s) || lies(z.Value, s) {
				t.Errorf("a text of %v is not new", y)
			}
		}
		_ = append(y.Labels, of("other", "other", "other", "other")...)
	}
	if _ = append(r.Refs, ref(9), ref(9)); !same(r, x) {
		t.Errorf("two lists share memory: %v", r)
	}
}

// P2: the same of Learn; and nothing of it is what was handed in.
func TestNewOfLearn(t *testing.T) {
	k, x := with(knows(ref(1, "aa", "xx")), ref(3, "cc", "zz"), 5), series(ref(2, "bb", "yy"), ref(4, "dd", "ww"))
	want := api.Known{Refs: []api.Ref{k.Refs[0], x.Refs[0], k.Refs[1], x.Refs[1]}, Lasts: []int{0, 0, 5, 0}, Has: []bool{false, false, true, false}}
	for _, r := range []api.Record{x, series(), samples()} {
		m, e := record.Learn(k, r)
		if e != api.OK {
			t.Fatalf("it is %d", e)
		}
		for _, y := range m.Refs {
			for _, z := range slices.Concat(k.Refs, x.Refs) {
				if lies(y.Labels[0].Name, z.Labels[0].Name) || lies(y.Labels[0].Value, z.Labels[0].Value) {
					t.Errorf("a text of %v is not new", y)
				}
			}
			_ = append(y.Labels, of("other", "other", "other", "other")...)
		}
		if len(m.Refs) == 4 && !sameKnown(m, want) {
			t.Errorf("two lists share memory: %v", m)
		}
		for i := range m.Refs {
			m.Refs[i].Labels[0].Value, m.Refs[i].Ref, m.Lasts[i], m.Has[i] = "other", 99, 99, true
		}
	}
	learns(t, k, x, want)
}
