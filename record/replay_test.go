package record_test

import (
	"strings"
	"testing"

	"gleaner/api"
	"gleaner/log"
	"gleaner/record"
)

// packed: a record that must be right.
func packed(t *testing.T, r api.Record) string {
	t.Helper()
	s, e := record.Pack(r)
	if e != api.OK {
		t.Fatalf("%v: %d", r, e)
	}
	return s
}

// logged: texts in a log, and where each of them ends there.
func logged(t *testing.T, texts ...string) (string, []int) {
	t.Helper()
	s, ends := "", []int{0}
	for _, x := range texts {
		var e api.Errno
		if s, e = log.Append(s, x); e != api.OK {
			t.Fatalf("%d bytes behind %d: %d", len(x), len(s), e)
		}
		ends = append(ends, len(s))
	}
	return s, ends
}

// part of a record, of a kind, as a log has it.
func part(kind byte, s string) string {
	sum := log.Check(s)
	return string([]byte{kind, byte(len(s)), byte(len(s) >> 8), byte(sum), byte(sum >> 8), byte(sum >> 16), byte(sum >> 24)}) + s
}

// replays: a log must tell this.
func replays(t *testing.T, s string, want api.Known, n int) {
	t.Helper()
	if k, m := record.Replay(s); !sameKnown(k, want) || m != n {
		t.Errorf("%.300q: it is %v %d, not %v %d", s, k, m, want, n)
	}
}

// I5: logs whose records can all be learnt; and what they tell, cut off anywhere.
func TestReplay(t *testing.T) {
	records := []api.Record{series(a), samples(point(1, 5, 1)), series(c, b), samples(), samples(point(300, -5, 1), point(1, 4, 1)), series(), series(ref(7, "d", strings.Repeat("v", 100))), samples(point(1, 9, 0))}
	var texts []string
	knowns := []api.Known{{}}
	for _, r := range records {
		texts = append(texts, packed(t, r))
		k, e := record.Learn(knowns[len(knowns)-1], r)
		if e != api.OK {
			t.Fatalf("%v: %d", r, e)
		}
		knowns = append(knowns, k)
	}
	if last := knowns[len(knowns)-1]; len(last.Refs) != 4 || last.Lasts[0] != 9 || last.Lasts[3] != -5 || last.Has[1] {
		t.Fatalf("in the end it is %v", last)
	}
	s, ends := logged(t, texts...)
	for n := range len(s) + 1 {
		whole := 0
		for whole+1 < len(ends) && ends[whole+1] <= n {
			whole++
		}
		replays(t, s[:n], knowns[whole], ends[whole])
		replays(t, s[:n]+strings.Repeat("\xff", 200), knowns[whole], ends[whole])
	}
	replays(t, "", api.Known{}, 0)
	replays(t, "x", api.Known{}, 0)
	replays(t, s+"\x00\x00", knowns[len(knowns)-1], len(s))
}

// unlearnt: records that can't be learnt behind series(a, b) and a sample of a at 5.
func unlearnt(t *testing.T) map[string]string {
	return map[string]string{
		"nothing":                   "",
		"no record":                 "x",
		"one with more behind it":   packed(t, series()) + "x",
		"noughts in a number":       "\x01\x80\x00",
		"one that is cut off":       packed(t, series(c))[:5],
		"one of a long text":        strings.Repeat("x", 3000),
		"a ref with other labels":   packed(t, series(ref(1, "a", "y"))),
		"labels of another ref":     packed(t, series(ref(3, "a", "x"))),
		"one new, and one twice":    packed(t, series(c, ref(4, "b", "x"))),
		"one new, twice":            packed(t, series(c, ref(4, "d", "x"), ref(5, "d", "x"))),
		"a sample of none":          packed(t, samples(point(300, 1, 1))),
		"samples, the last of none": packed(t, samples(point(1, 50, 1), point(2, 50, 1), point(3, 1, 1))),
	}
}

// I5: it ends at the first record that can't be learnt, whatever comes behind it.
func TestReplayEnds(t *testing.T) {
	first, second, behind := packed(t, series(a, b)), packed(t, samples(point(1, 5, 1))), packed(t, series(c))
	learnt := api.Known{Refs: []api.Ref{a, b}, Lasts: []int{5, 0}, Has: []bool{true, false}}
	for what, x := range unlearnt(t) {
		t.Run(what, func(t *testing.T) {
			s, ends := logged(t, first, second, x, behind, x)
			replays(t, s, learnt, ends[2])
			replays(t, s[:ends[3]], learnt, ends[2])
			s, ends = logged(t, first, second, packed(t, samples()), x)
			replays(t, s, learnt, ends[3])
		})
	}
	for _, x := range []string{"", "x", packed(t, samples(point(1, 1, 1))), packed(t, series(a, ref(1, "b", "x")))} {
		s, _ := logged(t, x, first)
		replays(t, s, api.Known{}, 0)
	}
}

// I5: the bytes that the records take end with the last part of the last one: noughts behind it are not among them, wherever parts end.
func TestReplayTakes(t *testing.T) {
	first, long := packed(t, series(a, b)), packed(t, series(api.Ref{Ref: 9, Labels: many(20, "value")}))
	// A record that ends 1 to 6 bytes ahead of a page's end, and beyond.
	for n := range 60 {
		filler := packed(t, series(ref(8, "long", strings.Repeat("v", 20+n))))
		k, _ := record.Learn(knows(a, b), series(ref(8, "long", strings.Repeat("v", 20+n))))
		s, ends := logged(t, first, filler, "x", long)
		replays(t, s, k, ends[2])
		s, ends = logged(t, first, filler, long, "x", first)
		k, _ = record.Learn(k, series(api.Ref{Ref: 9, Labels: many(20, "value")}))
		replays(t, s, k, ends[3])
	}
	// Parts that do not fill their pages: another log of the same records.
	torn := part(api.PartFirst, first[:3]) + part(api.PartNext, "") + part(api.PartLast, first[3:])
	one := part(api.PartWhole, first)
	for _, rest := range []string{"", part(api.PartWhole, "x"), part(api.PartWhole, "x") + one, part(api.PartFirst, "x") + part(api.PartLast, "y"), part(api.PartFirst, "x")} {
		replays(t, torn+rest, knows(a, b), len(torn))
		replays(t, one+rest, knows(a, b), len(one))
	}
}

// I5: a log may know 1000 refs, and no more.
func TestReplayMany(t *testing.T) {
	all := refs(1001)
	var texts []string
	for i := 0; i < 1000; i += 200 {
		texts = append(texts, packed(t, series(all[i:i+200]...)))
	}
	s, ends := logged(t, append(texts, packed(t, series(all[3], all[999])), packed(t, series(all[1000])), packed(t, samples(point(1, 1, 1))))...)
	replays(t, s, knows(all[:1000]...), ends[6])
	replays(t, s[:ends[5]], knows(all[:1000]...), ends[5])
	replays(t, s[:ends[4]+50], knows(all[:800]...), ends[4])
}

// I5: a long log of many records, with and without one that can't be learnt at its end.
func TestReplayLong(t *testing.T) {
	long := series(ref(2, "long", strings.Repeat("v", 96)))
	s, _ := logged(t, packed(t, series(a)), packed(t, long))
	page := strings.Repeat(part(api.PartWhole, packed(t, samples(point(1, 5, 1)))), 6) + part(api.PartWhole, packed(t, series()))
	page += strings.Repeat("\x00", 128-len(page))
	if len(s) != 128 || len(page) != 128 {
		t.Fatalf("pages have %d and %d bytes", len(s), len(page))
	}
	s += strings.Repeat(page, 7800)
	k, _ := record.Learn(with(knows(), a, 5), long)
	replays(t, s, k, len(s)-5)
	replays(t, s+part(api.PartWhole, "x")+part(api.PartWhole, packed(t, series())), k, len(s)-5)
}
