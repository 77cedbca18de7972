package take_test

import (
	"math/rand"
	"reflect"
	"slices"
	"strconv"
	"testing"
	"unsafe"

	"gleaner/api"
	"gleaner/labels"
	"gleaner/press"
	"gleaner/take"
	"gleaner/wire"
)

func pick[T any](r *rand.Rand, of ...T) T { return of[r.Intn(len(of))] }

func isTime(n int) bool { return n >= -api.MaxTime && n <= api.MaxTime }

// less: by names and values, one behind the other.
func less(a, b []api.Label) bool {
	flat := func(l []api.Label) []string {
		var all []string
		for _, x := range l {
			all = append(all, x.Name, x.Value)
		}
		return all
	}
	return slices.Compare(flat(a), flat(b)) < 0
}

// wrongStore: what Check must say.
func wrongStore(l []api.Series) api.Errno {
	if len(l) > 500 {
		return api.ErrMany
	}
	for _, s := range l {
		if len(s.Samples) > 5000 {
			return api.ErrMany
		}
	}
	for _, s := range l {
		if e := labels.Check(s.Labels); e != api.OK {
			return e
		}
		if len(s.Samples) == 0 {
			return api.ErrRange
		}
		for _, p := range s.Samples {
			if !isTime(p.Time) {
				return api.ErrRange
			}
		}
		for i := range s.Samples[1:] {
			if s.Samples[i].Time >= s.Samples[i+1].Time {
				return api.ErrState
			}
		}
	}
	for i := 1; i < len(l); i++ {
		if !less(l[i-1].Labels, l[i].Labels) {
			return api.ErrState
		}
	}
	return api.OK
}

// asTaken: what Take must say of some series that were sent.
func asTaken(l, came []api.Series) ([]api.Series, int, api.Errno) {
	if e := wrongStore(l); e != api.OK {
		return nil, 0, e
	}
	for _, s := range came {
		if len(s.Labels) == 0 || labels.Check(s.Labels) != api.OK {
			return l, 400, api.OK
		}
	}
	all := map[string][]api.Sample{}
	keys := map[string][]api.Label{}
	put := func(s api.Series) {
		key := strconv.Itoa(len(s.Labels))
		for _, x := range s.Labels {
			key += strconv.Quote(x.Name) + strconv.Quote(x.Value)
		}
		keys[key] = s.Labels
		for _, p := range s.Samples {
			if last := len(all[key]) - 1; last < 0 || p.Time > all[key][last].Time {
				all[key] = append(all[key], p)
			}
		}
	}
	for _, s := range append(append([]api.Series{}, l...), came...) {
		put(s)
	}
	var made []api.Series
	for key, samples := range all {
		if made = append(made, api.Series{Labels: keys[key], Samples: samples}); len(samples) > 5000 {
			return nil, 0, api.ErrMany
		}
	}
	if len(made) > 500 {
		return nil, 0, api.ErrMany
	}
	slices.SortFunc(made, func(a, b api.Series) int {
		if less(a.Labels, b.Labels) {
			return -1
		}
		return 1
	})
	return made, 200, api.OK
}

func someLabels(r *rand.Rand) []api.Label {
	if r.Intn(400) == 0 {
		return pick(r, nil, wrongLabels[0].l, wrongLabels[1].l, wrongLabels[2].l, wrongLabels[4].l, wrongLabels[5].l)
	}
	return pick(r, of("a", "x"), of("a", "y"), of("b", "x"), of("a", "x", "b", "z"), of("__name__", "{}"), of("a", "x", "c", "y"), of("A", strconv.Itoa(r.Intn(30))))
}

func someTime(r *rand.Rand) int {
	if r.Intn(50) == 0 {
		return pick(r, api.MaxTime, -api.MaxTime)
	}
	return r.Intn(200) - 50
}

// some series, as they may be sent.
func some(r *rand.Rand) []api.Series {
	var l []api.Series
	for range r.Intn(8) {
		s := api.Series{Labels: someLabels(r)}
		time := someTime(r)
		for range r.Intn(6) {
			s.Samples = append(s.Samples, api.Sample{Time: time, Bits: r.Uint64()})
			time = min(max(time+r.Intn(12)-2, -api.MaxTime), api.MaxTime)
		}
		l = append(l, s)
	}
	return l
}

// someStore: what came of some, now and then marred.
func someStore(r *rand.Rand) []api.Series {
	l := pick(r, nil, nil, rising(500-r.Intn(8)), store(series(nil, 5)), store(series(of("A", "1"), till(5000-r.Intn(5))...)))
	for range r.Intn(4) {
		if m, n, e := asTaken(l, some(r)); e == api.OK && n == 200 {
			l = m
		}
	}
	if len(l) > 0 && r.Intn(10) == 0 {
		i, j := r.Intn(len(l)), r.Intn(len(l))
		l = slices.Clone(l)
		switch r.Intn(4) {
		case 0:
			l[i].Labels = pick(r, someLabels(r), wrongLabels[r.Intn(len(wrongLabels))].l)
		case 1:
			l[i], l[j] = l[j], l[i]
		case 2:
			l[i].Samples = append(at(), l[j].Samples...)
			slices.Reverse(l[i].Samples)
		case 3:
			l[i].Samples = pick(r, nil, at(api.MaxTime+1), at(-1<<63), at(5, 5))
		}
	}
	return l
}

// L1 to L3, of many stores.
func TestAsModel(t *testing.T) {
	r := rand.New(rand.NewSource(1))
	met := map[api.Errno]int{}
	answers := map[int]int{}
	for range 3000 {
		l, came := someStore(r), some(r)
		if e, want := take.Check(l), wrongStore(l); e != want {
			t.Fatalf("%v: it is %d, not %d", l, e, want)
		}
		m, n, e := take.Take(l, sent(t, came...))
		want, answer, wrong := asTaken(l, came)
		if !same(m, want) || n != answer || e != wrong {
			t.Fatalf("%v, then %v: it is %v %d %d, not %v %d %d", l, came, m, n, e, want, answer, wrong)
		}
		met[e]++
		answers[n]++
		x := someLabels(r)
		if e == api.OK && len(x) > 0 && labels.Check(x) == api.OK {
			got, f := take.Get(m, x)
			i := slices.IndexFunc(want, func(s api.Series) bool { return slices.Equal(s.Labels, x) })
			if i < 0 && (f != api.ErrNone || len(got) > 0) || i >= 0 && (f != api.OK || !slices.Equal(got, want[i].Samples)) {
				t.Fatalf("%v of %v: it is %v %d", x, m, got, f)
			}
		}
	}
	for _, e := range []api.Errno{api.OK, api.ErrForm, api.ErrMany, api.ErrRange, api.ErrState, api.ErrTwice} {
		if met[e] == 0 {
			t.Errorf("%d is never met", e)
		}
	}
	if answers[200] == 0 || answers[400] == 0 {
		t.Errorf("not every answer is met: %v", answers)
	}
}

// L4: what is taken twice is taken once; and what was kept stays.
func TestTwiceIsOnce(t *testing.T) {
	r := rand.New(rand.NewSource(2))
	for range 300 {
		var l []api.Series
		var all []string
		for range 1 + r.Intn(8) {
			s := sent(t, some(r)...)
			if all = append(all, s); r.Intn(3) == 0 {
				s = pick(r, all...)
			}
			m, n, e := take.Take(l, s)
			if e != api.OK {
				t.Fatalf("%v, then %x: it is %d", l, s, e)
			}
			if again, k, e := take.Take(m, s); !same(again, m) || k != n || e != api.OK {
				t.Fatalf("%v, then %x: it is %v, and then %v %d %d", l, s, m, again, k, e)
			}
			if e := take.Check(m); e != api.OK {
				t.Fatalf("%v: it is %d", m, e)
			}
			for _, x := range l {
				if got, e := take.Get(m, x.Labels); e != api.OK || len(got) < len(x.Samples) || !slices.Equal(got[:len(x.Samples)], x.Samples) {
					t.Fatalf("%v became %v %d", x, got, e)
				}
			}
			l = m
		}
	}
}

// P1: whatever is handed in is answered. P3: by the same, each time.
func TestAnything(t *testing.T) {
	r := rand.New(rand.NewSource(3))
	heads := []byte{0x0a, 0x12, 0x09, 0x10, 0x00, 0x01, 0x02, 'a', 'x', 0x80, 0xff}
	for range 20000 {
		b := make([]byte, r.Intn(40))
		r.Read(b)
		for i := range b {
			if r.Intn(2) == 0 {
				b[i] = heads[r.Intn(len(heads))]
			}
		}
		s := string(b)
		if r.Intn(2) == 0 {
			s, _ = press.Pack(s)
		} else if r.Intn(2) == 0 {
			long, _ := wire.Write(some(r))
			b := []byte(long)
			if len(b) > 0 {
				b[r.Intn(len(b))] ^= 1 << r.Intn(8)
			}
			s, _ = press.Pack(string(b))
		}
		l := some(r)
		if r.Intn(2) == 0 {
			l, _, _ = asTaken(nil, l)
		}
		all := func() []any {
			m, n, e := take.Take(l, s)
			if e == api.OK && take.Check(m) != api.OK || e == api.OK && n == api.AnswerBad && !same(l, m) {
				t.Fatalf("%v, then %x: it is %v %d", l, s, m, n)
			}
			x, f := take.Get(m, someLabels(rand.New(rand.NewSource(int64(len(s))))))
			return []any{take.Check(l), m, n, e, x, f}
		}
		if a, b := all(), all(); !reflect.DeepEqual(a, b) {
			t.Fatalf("%v, %x: %v, and then %v", l, s, a, b)
		}
	}
}

// lies: is a text a piece of another one?
func lies(s, in string) bool {
	at, from := uintptr(unsafe.Pointer(unsafe.StringData(s))), uintptr(unsafe.Pointer(unsafe.StringData(in)))
	return len(s) > 0 && at >= from && at < from+uintptr(len(in))
}

// spare: a store with room behind its lists, in which something lies.
func spare() []api.Series {
	l := store(series(of("aa", "xx", "bb", "yy"), 1, 2, 3), series(of("cc", "zz"), 5), series(of("dd", "ww"), 6, 7), series(of("zz", "z"), 9))
	l[0].Labels, l[0].Samples, l[2].Samples = l[0].Labels[:1], l[0].Samples[:2], l[2].Samples[:1]
	return l[:3]
}

// texts that are taken in one way and another.
func texts(t *testing.T) []string {
	return []string{
		sent(t, series(of("aa", "xx"), 9), series(of("bb", "nn"), 4), series(of("cc", "zz"), 8), series(of("dd", "ww"), 9)),
		sent(t, series(of("ee", "nn"), 4)),
		sent(t),
		"",
	}
}

// P2: what is handed in is only read, the spare room behind it too.
func TestOnlyRead(t *testing.T) {
	l, kept := spare(), spare()
	x := append(of("aa", "xx"), of("bb", "yy")...)
	for _, s := range texts(t) {
		take.Take(l, s)
	}
	take.Check(l)
	take.Get(l, x[:1])
	if !reflect.DeepEqual(l[:4], kept[:4]) || !reflect.DeepEqual(l[0].Labels[:2], kept[0].Labels[:2]) || !reflect.DeepEqual(l[0].Samples[:3], kept[0].Samples[:3]) || !reflect.DeepEqual(l[2].Samples[:2], kept[2].Samples[:2]) {
		t.Errorf("what was handed in became %v", l)
	}
	if !slices.Equal(x, of("aa", "xx", "bb", "yy")) {
		t.Errorf("what was handed in became %v", x)
	}
}

// P2: an answer is new memory; no two lists of it share any.
func TestNew(t *testing.T) {
	l := spare()
	for _, s := range texts(t) {
		m, n, _ := take.Take(l, s)
		var kept []api.Series
		for _, x := range m {
			kept = append(kept, api.Series{Labels: slices.Clone(x.Labels), Samples: slices.Clone(x.Samples)})
		}
		for i, x := range m {
			for _, y := range x.Labels {
				for _, z := range l {
					if lies(y.Name, z.Labels[0].Name) || lies(y.Value, z.Labels[0].Value) || lies(y.Name, s) || lies(y.Value, s) {
						t.Errorf("%d: a text of %v is not new", n, y)
					}
				}
			}
			_ = append(x.Labels, of("o", "o", "o", "o", "o", "o")...)
			_ = append(x.Samples, at(99, 99, 99, 99, 99)...)
			if !same(m, kept) {
				t.Errorf("%d: two lists share memory: %d of %v", n, i, m)
			}
		}
		_ = append(m, series(nil, 5), series(nil, 5))
		for i := range m {
			m[i].Labels[0].Value, m[i].Samples[0].Bits = "other", 77
		}
	}
	samples, e := take.Get(l, of("aa", "xx"))
	if len(samples) != 2 || e != api.OK {
		t.Fatalf("it is %v %d", samples, e)
	}
	_ = append(samples, at(99, 99)...)
	samples[0].Bits, samples[1].Time = 77, 99
	if !reflect.DeepEqual(l[:4], spare()[:4]) || !reflect.DeepEqual(l[0].Samples[:3], spare()[0].Samples[:3]) {
		t.Errorf("what was handed in became %v", l)
	}
}
