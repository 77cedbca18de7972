package scrape_test

import (
	"fmt"
	"math/rand"
	"reflect"
	"slices"
	"testing"
	"unsafe"

	"gleaner/api"
	"gleaner/expo"
	"gleaner/labels"
	"gleaner/record"
	"gleaner/relabel"
	"gleaner/scrape"
)

// learnable: J6: what a scrape logs can be learnt, and each series' times rise.
func learnable(t *testing.T, w api.Watch, s api.Scrape, k api.Known) api.Known {
	t.Helper()
	o, e := scrape.Run(w, s, k)
	if e != api.OK {
		t.Fatalf("%v, %v, %v: it is %d", w, s, k, e)
	}
	m, e := record.Learn(k, o.Series)
	if e != api.OK || len(m.Refs) != len(k.Refs)+len(o.Series.Refs) {
		t.Fatalf("%v can't be learnt behind %v: %d", o.Series, k, e)
	}
	for _, p := range o.Samples.Points {
		was := m
		m, e = record.Learn(m, api.Record{Kind: api.RecordSamples, Points: []api.Point{p}})
		if e != api.OK {
			t.Fatalf("%v can't be learnt behind %v: %d", p, was, e)
		}
		for i, x := range was.Refs {
			if x.Ref == p.Ref && was.Has[i] && was.Lasts[i] >= p.Time {
				t.Fatalf("%v is not later than %v", p, was)
			}
		}
	}
	if _, e = record.Learn(k, o.Samples); len(o.Series.Refs) == 0 && e != api.OK {
		t.Fatalf("%v can't be learnt behind %v: %d", o.Samples, k, e)
	}
	if e := scrape.Check(o.Watch); e != api.OK {
		t.Fatalf("what was seen is %v: %d", o.Watch, e)
	}
	return m
}

// asMade: the labels of a reading, with the target's over these.
func asMade(l, target []api.Label) ([]api.Label, api.Errno) {
	all := slices.Clone(target)
	for _, x := range l {
		if !slices.ContainsFunc(target, func(y api.Label) bool { return y.Name == x.Name }) {
			all = append(all, x)
		}
	}
	return labels.Make(all)
}

// asLast: the last time of a ref, by what is known and what is logged.
func asLast(k api.Known, logged []api.Point, ref int) (int, bool) {
	last, has := 0, false
	for i, x := range k.Refs {
		if x.Ref == ref {
			last, has = k.Lasts[i], k.Has[i]
		}
	}
	for _, p := range logged {
		if p.Ref == ref {
			last, has = p.Time, true
		}
	}
	return last, has
}

func in(l [][]api.Label, x []api.Label) bool {
	return slices.ContainsFunc(l, func(y []api.Label) bool { return slices.Equal(x, y) })
}

// asStale: samples of what was seen, and is not now.
func asStale(w api.Watch, s api.Scrape, k api.Known, seen [][]api.Label) []api.Point {
	var all []api.Point
	for _, l := range w.Seen {
		for _, x := range k.Refs {
			last, has := asLast(k, nil, x.Ref)
			if slices.Equal(x.Labels, l) && !in(seen, l) && !(has && last >= s.Now) {
				all = append(all, point(x.Ref, s.Now, api.BitsStale))
			}
		}
	}
	return all
}

// asTold: what must come of a scrape that does not fail; and does it not?
func asTold(w api.Watch, s api.Scrape, k api.Known) (o outcome, right bool) {
	readings, f := expo.Parse(s.Body)
	if !s.Told || len(s.Body) > s.Limits.Bytes || f.Err != api.OK || len(readings) > s.Limits.Readings {
		return o, false
	}
	refs := slices.Clone(k.Refs)
	for _, r := range readings {
		l, e := asMade(r.Labels, w.Target.Labels)
		if e != api.OK {
			return o, false
		}
		l, stays, e := relabel.Apply(l, s.Rules)
		if e != api.OK {
			return o, false
		}
		if !stays || len(l) == 0 {
			o.dropped++
			continue
		}
		i := slices.IndexFunc(refs, func(x api.Ref) bool { return slices.Equal(x.Labels, l) })
		if i < 0 {
			next := 1
			for _, x := range refs {
				next = max(next, x.Ref+1)
			}
			if i = len(refs); next > api.MaxRef {
				return o, false
			}
			refs = append(refs, api.Ref{Ref: next, Labels: l})
			o.refs = append(o.refs, ref{next, l, nil})
		}
		if !in(o.seen, l) {
			o.seen = append(o.seen, l)
		}
		time := s.Now
		if r.Timed {
			time = r.Time
		}
		if last, has := asLast(k, o.points, refs[i].Ref); has && time <= last {
			o.late++
		} else {
			o.points = append(o.points, point(refs[i].Ref, time, r.Bits))
		}
	}
	o.points = append(o.points, asStale(w, s, k, o.seen)...)
	slices.SortFunc(o.seen, func(a, b []api.Label) int { n, _ := labels.Compare(a, b); return n })
	return o, len(o.points) <= 200
}

// asRun: what Run must say.
func asRun(w api.Watch, s api.Scrape, k api.Known) api.Outcome {
	o, right := asTold(w, s, k)
	if !right {
		all := asStale(w, s, k, nil)
		o = outcome{points: all[:min(len(all), 200)], failed: true}
	}
	return o.of(w)
}

func pick[T any](r *rand.Rand, of ...T) T { return of[r.Intn(len(of))] }

// someBody: readings of few series, so that they come again.
func someBody(r *rand.Rand) string {
	s := ""
	for range r.Intn(7) {
		s += pick(r, "a", "b", "c", "x1")
		s += pick(r, " ", "{}", `{a="x"}`, `{job="z"}`, `{a="y",b="1"}`, `{b="2"}`, `{a=""}`)
		s += " " + pick(r, "1", "2", "0.5", "NaN") + pick(r, "", "", "", " 5", " -5", " 100", " 7", " 250") + "\n"
	}
	if r.Intn(20) == 0 {
		s += pick(r, "x", "a", "a 1 z", "a{a=\"1\",a=\"2\"} 1")
	}
	if r.Intn(40) == 0 {
		s += lines(pick(r, 190, 197, 198, 199, 200, 201))
	}
	return s
}

func someRules(r *rand.Rand) []api.Rule {
	var l []api.Rule
	for range max(0, r.Intn(6)-3) {
		l = append(l, pick(r,
			api.Rule{Kind: api.RuleDrop, Sources: []string{"__name__"}, Mask: pick(r, "a", "b", "[bc]")},
			api.Rule{Kind: api.RuleKeep, Sources: []string{"a"}, Mask: "x|"},
			api.Rule{Kind: api.RuleLose, Mask: pick(r, "a", "b|job", ".", "__name__", "__name__|a|b|job")},
			api.Rule{Kind: api.RuleReplace, Sources: []string{"__name__"}, Mask: "(.)", Target: pick(r, "b", "__name__"), Replacement: pick(r, "{}", "$1", "")},
			api.Rule{Kind: api.RuleMap, Mask: "a", Replacement: "b"},
			api.Rule{Kind: api.RuleShare, Sources: []string{"a", "b"}, Modulus: 2, Target: "a"},
		))
	}
	return l
}

func someScrape(r *rand.Rand) api.Scrape {
	return api.Scrape{
		Body: someBody(r), Told: r.Intn(20) > 0, Now: pick(r, 100, 100, 6, 0, -6, 250, 300+r.Intn(100)), Rules: someRules(r),
		Limits: api.Limits{Bytes: pick(r, 20000, 20000, 20000, 60), Readings: pick(r, 300, 300, 300, 5)},
	}
}

func someTarget(r *rand.Rand) []api.Label {
	switch r.Intn(40) {
	case 0:
		return many(pick(r, 17, 18, 19, 20), "v")
	case 1:
		return of("__name__", "{}")
	}
	return pick(r, nil, of("job", "j"), of("job", "j"), of("a", "x"), of("__name__", "a"))
}

// J1 to J6: many scrapes of a target, one behind the other: what is known and was seen is what the ones ahead told.
func TestAsItStands(t *testing.T) {
	r := rand.New(rand.NewSource(1))
	failed, stale, late := 0, 0, 0
	for range 2000 {
		w := watch(someTarget(r))
		var k api.Known
		for range r.Intn(8) {
			s := someScrape(r)
			if r.Intn(20) == 0 && len(k.Refs) > 0 {
				last := &k.Refs[len(k.Refs)-1].Ref
				*last = max(*last, api.MaxRef-r.Intn(4))
			}
			if r.Intn(20) == 0 {
				w.Target.Labels = someTarget(r)
			}
			o, e := scrape.Run(w, s, k)
			if want := asRun(w, s, k); !same(o, want) || e != api.OK {
				t.Fatalf("%v\n%v\n%v: it is\n%v %d, not\n%v", w, s, k, o, e, want)
			}
			k, w = learnable(t, w, s, k), o.Watch
			if o.Failed {
				failed++
			}
			if len(o.Samples.Points) > 0 && o.Samples.Points[len(o.Samples.Points)-1].Bits == api.BitsStale {
				stale++
			}
			late += o.Late
		}
	}
	if failed == 0 || stale == 0 || late == 0 {
		t.Errorf("%d failed, %d told of what ended, %d readings were late", failed, stale, late)
	}
}

// P1: whatever is handed in is answered, and what has an error tells nothing else. P3: by the same, each time.
func TestAnything(t *testing.T) {
	r := rand.New(rand.NewSource(2))
	someLabels := func() []api.Label {
		return pick(r, nil, of("a", "x"), of("b", "x"), of("a", "x", "b", "y"), of("b", "x", "a", "y"), of("1", "x"), of("a", ""), of("__name__", "{}"), many(21, "v"))
	}
	met := map[api.Errno]int{}
	for range 8000 {
		w, s := watch(someLabels()), someScrape(r)
		for range r.Intn(3) {
			w.Seen = append(w.Seen, someLabels())
		}
		var k api.Known
		for range r.Intn(3) {
			k.Refs, k.Lasts, k.Has = append(k.Refs, api.Ref{Ref: r.Intn(5), Labels: someLabels()}), append(k.Lasts, pick(r, 0, 0, 5, 200, 1<<63-1)), append(k.Has, r.Intn(3) > 0)
		}
		if r.Intn(20) == 0 {
			s.Now, s.Limits.Bytes, s.Limits.Readings = pick(r, s.Now, 1<<63-1, -1<<63), pick(r, 100, -1, 1<<63-1), pick(r, 100, -1, 1<<63-1)
		}
		if r.Intn(20) == 0 {
			s.Rules = append(s.Rules, api.Rule{Kind: r.Intn(9), Mask: pick(r, "", "(", "a**")})
		}
		b := make([]byte, r.Intn(20))
		r.Read(b)
		if r.Intn(2) == 0 {
			s.Body += string(b)
		}
		o, e := scrape.Run(w, s, k)
		if e != api.OK && !same(o, api.Outcome{}) || e == api.OK && !same(o, asRun(w, s, k)) {
			t.Fatalf("%v, %v, %v: it is %v %d", w, s, k, o, e)
		}
		if p, f := scrape.Run(w, s, k); !reflect.DeepEqual(o, p) || e != f {
			t.Fatalf("%v, %v, %v: it is %v, and then %v", w, s, k, o, p)
		}
		met[e]++
	}
	if len(met) < 6 {
		t.Errorf("the errors are %v", met)
	}
}

// P2: what is handed in is only read, the spare room behind it too.
func TestOnlyRead(t *testing.T) {
	fresh := func() (api.Watch, api.Scrape, api.Known) {
		w := watch(of("job", "j", "z", "z", "zz", "zz", "zzz", "z")[:1], rising(5)[:2]...)
		s := told("b 1\na 2\nc 3\nb 4", api.Rule{Kind: api.RuleReplace, Sources: []string{"job", "other"}[:1], Mask: "(.)", Target: "b", Replacement: "$1"}, api.Rule{Kind: api.RuleHold, Mask: ".*"}, api.Rule{Kind: api.RuleDrop})
		s.Rules = s.Rules[:2]
		k := known(ref{3, rising(1)[0], 5}, ref{5, of("__name__", "b", "b", "j", "job", "j"), 7}, ref{9, of("z", "z"), 8}, ref{10, of("y", "y"), 8})
		k.Refs, k.Lasts, k.Has = k.Refs[:2], k.Lasts[:2], k.Has[:2]
		return w, s, k
	}
	w, s, k := fresh()
	v, r, l := fresh()
	o, e := scrape.Run(w, s, k)
	if e != api.OK || o.Failed || len(o.Series.Refs) != 2 || len(o.Samples.Points) != 4 || o.Late != 1 {
		t.Fatalf("it is %v %d", o, e)
	}
	s.Told = false
	scrape.Run(w, s, k)
	scrape.Check(w)
	s.Told = true
	if !reflect.DeepEqual(w.Seen[:5], v.Seen[:5]) || !reflect.DeepEqual(w.Target.Labels[:4], v.Target.Labels[:4]) || !reflect.DeepEqual(s.Rules[:3], r.Rules[:3]) || s.Rules[0].Sources[:2][1] != "other" || !reflect.DeepEqual(s, r) {
		t.Errorf("what was handed in became %v, %v", w, s)
	}
	if !reflect.DeepEqual(k.Refs[:4], l.Refs[:4]) || !reflect.DeepEqual(k.Lasts[:4], l.Lasts[:4]) || !reflect.DeepEqual(k.Has[:4], l.Has[:4]) {
		t.Errorf("what was known became %v", k)
	}
}

// lies: is a text a piece of another one?
func lies(s, in string) bool {
	at, from := uintptr(unsafe.Pointer(unsafe.StringData(s))), uintptr(unsafe.Pointer(unsafe.StringData(in)))
	return len(s) > 0 && at >= from && at < from+uintptr(len(in))
}

// every list of labels that an outcome has.
func every(o api.Outcome) [][]api.Label {
	all := append(list(o.Watch.Target.Labels), o.Watch.Seen...)
	for _, x := range o.Series.Refs {
		all = append(all, x.Labels)
	}
	return all
}

// P2: what Run answers is new memory; no two lists of it share memory.
func TestNew(t *testing.T) {
	s := told("aa{xx=\"11\"} 1\nbb 2\ncc 3\n")
	w := watch(of("job", "jj"), of("__name__", "bb", "job", "jj"), of("__name__", "dd"))
	k := known(ref{3, of("__name__", "bb", "job", "jj"), 5}, ref{4, of("__name__", "dd"), 5})
	for _, isTold := range []bool{true, false} {
		s.Told = isTold
		o, e := scrape.Run(w, s, k)
		want := asRun(w, s, k)
		if e != api.OK || !same(o, want) {
			t.Fatalf("it is %v %d", o, e)
		}
		texts := []string{s.Body}
		for _, l := range append(append(list(w.Target.Labels), w.Seen...), k.Refs[0].Labels, k.Refs[1].Labels) {
			for _, x := range l {
				texts = append(texts, x.Name, x.Value)
			}
		}
		for _, l := range every(o) {
			for _, x := range l {
				for _, y := range texts {
					if lies(x.Name, y) || lies(x.Value, y) {
						t.Errorf("a text of %v is not new", x)
					}
				}
			}
			_ = append(l, of("other", "other", "other", "other", "other", "other")...)
		}
		_ = append(append(o.Watch.Seen, of("other", "other")), of("other", "other"))
		_ = append(o.Series.Refs, api.Ref{}, api.Ref{})
		_ = append(o.Samples.Points, api.Point{}, api.Point{})
		if !same(o, want) {
			t.Errorf("two lists share memory: %v", o)
		}
		all := every(o)
		for i, l := range all {
			l[0].Value = fmt.Sprint("other", i)
		}
		for i, l := range all {
			if l[0].Value != fmt.Sprint("other", i) {
				t.Errorf("two lists share memory: %v", all)
			}
		}
		if again, e := scrape.Run(w, s, k); e != api.OK || !same(again, want) {
			t.Errorf("then it is %v %d", again, e)
		}
	}
}
