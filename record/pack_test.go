package record_test

import (
	"encoding/binary"
	"encoding/hex"
	"reflect"
	"strings"
	"testing"

	"gleaner/api"
	"gleaner/record"
)

// of some names and values, one behind the other.
func of(namesAndValues ...string) []api.Label {
	var l []api.Label
	for i := 0; i < len(namesAndValues); i += 2 {
		l = append(l, api.Label{Name: namesAndValues[i], Value: namesAndValues[i+1]})
	}
	return l
}

// many labels, whose names are na to nt.
func many(n int, value string) []api.Label {
	var l []api.Label
	for i := range n {
		l = append(l, api.Label{Name: "n" + string(rune('a'+i)), Value: value})
	}
	return l
}

func ref(n int, namesAndValues ...string) api.Ref {
	return api.Ref{Ref: n, Labels: of(namesAndValues...)}
}

func series(refs ...api.Ref) api.Record {
	return api.Record{Kind: api.RecordSeries, Refs: refs}
}

func samples(points ...api.Point) api.Record {
	return api.Record{Kind: api.RecordSamples, Points: points}
}

func point(ref, time int, bits uint64) api.Point {
	return api.Point{Ref: ref, Time: time, Bits: bits}
}

// refs, as many, of other series each.
func refs(n int) []api.Ref {
	var l []api.Ref
	for i := range n {
		l = append(l, ref(i+1, "a", number(i)))
	}
	return l
}

func number(n int) string {
	return hex.EncodeToString(binary.BigEndian.AppendUint32(nil, uint32(n)))
}

// same: an empty list may be nil or not.
func same(a, b api.Record) bool {
	return a.Kind == b.Kind && sameRefs(a.Refs, b.Refs) && sameLists(a.Points, b.Points)
}

func sameRefs(a, b []api.Ref) bool {
	if len(a) != len(b) {
		return false
	}
	for i := range a {
		if a[i].Ref != b[i].Ref || !sameLists(a[i].Labels, b[i].Labels) {
			return false
		}
	}
	return true
}

func sameLists[T any](a, b []T) bool {
	return len(a) == 0 && len(b) == 0 || reflect.DeepEqual(a, b)
}

// bytesOf a text in digits to the base of 16; what is behind a blank is told apart for the reader alone.
func bytesOf(t *testing.T, s string) string {
	t.Helper()
	b, err := hex.DecodeString(strings.ReplaceAll(s, " ", ""))
	if err != nil {
		t.Fatal(err)
	}
	return string(b)
}

// forms: records, and what they are packed, to the base of 16.
var forms = []struct {
	r api.Record
	s string
}{
	{series(), "01 00"},
	{samples(), "02 00"},
	{series(ref(1, "a", "x")), "01 01 01 01 0161 0178"},
	{series(ref(127, "a", "x"), ref(128, "b", "yz")), "01 02 7f 01 0161 0178 8001 01 0162 02797a"},
	{series(ref(1000000, "__name__", "up", "job", "\x00\xff")), "01 01 c0843d 02 085f5f6e616d655f5f 027570 036a6f62 0200ff"},
	{series(ref(300, "b", "y"), ref(2, "a", "x")), "01 02 ac02 01 0162 0179 02 01 0161 0178"},
	{series(ref(5, "a", "x"), ref(5, "a", "x")), "01 02 05 01 0161 0178 05 01 0161 0178"},
	{samples(point(1, 0, 0)), "02 01 01 00 0000000000000000"},
	{samples(point(1, 1, 1)), "02 01 01 02 0100000000000000"},
	{samples(point(1, -1, 0x0807060504030201)), "02 01 01 01 0102030405060708"},
	{samples(point(1, 63, 1<<63)), "02 01 01 7e 0000000000000080"},
	{samples(point(1, 64, 0)), "02 01 01 8001 0000000000000000"},
	{samples(point(1, -64, 0)), "02 01 01 7f 0000000000000000"},
	{samples(point(1, -65, 0)), "02 01 01 8101 0000000000000000"},
	{samples(point(1, api.MaxTime, api.BitsNone)), "02 01 01 feffffffffffff1f 010000000000f87f"},
	{samples(point(1, -api.MaxTime, api.BitsStale)), "02 01 01 fdffffffffffff1f 020000000000f07f"},
	{samples(point(1000000, 5, 1), point(1, -5, 1<<64-1), point(1, -5, 2)), "02 03 c0843d 0a 0100000000000000 01 09 ffffffffffffffff 01 09 0200000000000000"},
}

// I1: what a record is packed.
func TestPack(t *testing.T) {
	for _, c := range forms {
		if s, e := record.Pack(c.r); s != bytesOf(t, c.s) || e != api.OK {
			t.Errorf("%v: it is %x %d, not %s", c.r, s, e, c.s)
		}
	}
}

// I1: the bounds; a record may have more bytes than a text that is sent.
func TestPackBounds(t *testing.T) {
	longest := api.Label{Name: strings.Repeat("n", 40), Value: strings.Repeat("v", 100)}
	var full []api.Ref
	for i := range 200 {
		full = append(full, api.Ref{Ref: 1000000 - i, Labels: many(20, strings.Repeat("v", 100))})
	}
	for _, c := range []struct {
		r    api.Record
		size int
	}{
		{series(refs(200)...), 1 + 2 + 200*(1+1+2+9) + 73},
		{samples(make200(point(1000000, api.MaxTime, 0))...), 1 + 2 + 200*(3+8+8)},
		{series(api.Ref{Ref: 1, Labels: []api.Label{longest}}), 2 + 2 + 41 + 101},
		{series(full...), 1 + 2 + 200*(3+1+20*(3+101))},
	} {
		s, e := record.Pack(c.r)
		if len(s) != c.size || e != api.OK {
			t.Errorf("it is %d bytes, %d, not %d", len(s), e, c.size)
		}
		if r, e := record.Unpack(s); !same(r, c.r) || e != api.OK {
			t.Errorf("with %d bytes it is unpacked to %d refs, %d points, %d", c.size, len(r.Refs), len(r.Points), e)
		}
	}
}

func make200(p api.Point) []api.Point {
	l := make([]api.Point, 200)
	for i := range l {
		l[i] = p
	}
	return l
}

// wrong records, and which error each is, in the order in which I1 names them: one with more faults than one is told by the first of them.
func wrong() []struct {
	what string
	r    api.Record
	want api.Errno
} {
	badRef, badLabels := ref(0), ref(1, "1", "x")
	return []struct {
		what string
		r    api.Record
		want api.Errno
	}{
		{"no kind", api.Record{}, api.ErrKind},
		{"a third kind", api.Record{Kind: 3}, api.ErrKind},
		{"a kind below 0", api.Record{Kind: -1}, api.ErrKind},
		{"a kind whose lowest byte is one", api.Record{Kind: 257}, api.ErrKind},
		{"no kind, with refs and points", api.Record{Refs: refs(201), Points: make([]api.Point, 201)}, api.ErrKind},
		{"series with points", api.Record{Kind: 1, Points: []api.Point{point(1, 1, 1)}}, api.ErrForm},
		{"series with refs and points", api.Record{Kind: 1, Refs: refs(1), Points: []api.Point{point(1, 1, 1)}}, api.ErrForm},
		{"samples with refs", api.Record{Kind: 2, Refs: refs(1)}, api.ErrForm},
		{"samples with refs and points", api.Record{Kind: 2, Refs: refs(1), Points: []api.Point{point(1, 1, 1)}}, api.ErrForm},
		{"series with too many of both", api.Record{Kind: 1, Refs: refs(201), Points: make([]api.Point, 201)}, api.ErrForm},
		{"samples with too many refs", api.Record{Kind: 2, Refs: refs(201)}, api.ErrForm},
		{"too many refs", series(refs(201)...), api.ErrMany},
		{"too many refs that are none", series(make([]api.Ref, 201)...), api.ErrMany},
		{"too many points", samples(append(make200(point(1, 1, 1)), point(1, 1, 1))...), api.ErrMany},
		{"too many points that are none", samples(make([]api.Point, 201)...), api.ErrMany},
		{"ref 0", series(ref(0, "a", "x")), api.ErrRange},
		{"a ref below 0", series(ref(-1, "a", "x")), api.ErrRange},
		{"the least ref", series(ref(-1<<63, "a", "x")), api.ErrRange},
		{"too great a ref", series(ref(1000001, "a", "x")), api.ErrRange},
		{"ref 0 without labels", series(badRef), api.ErrRange},
		{"ref 0 with wrong labels", series(ref(0, "1", "")), api.ErrRange},
		{"no labels", series(ref(1)), api.ErrForm},
		{"no labels of the last one", series(ref(1, "a", "x"), ref(1)), api.ErrForm},
		{"a name that is none", series(badLabels), api.ErrForm},
		{"an empty value", series(ref(1, "a", "")), api.ErrForm},
		{"too long a value", series(ref(1, "a", strings.Repeat("v", 101))), api.ErrMany},
		{"too many labels", series(api.Ref{Ref: 1, Labels: many(21, "v")}), api.ErrMany},
		{"a name twice", series(ref(1, "a", "x", "a", "y")), api.ErrTwice},
		{"names that do not rise", series(ref(1, "b", "x", "a", "y")), api.ErrState},
		{"names that do not rise, and then ref 0", series(ref(1, "b", "x", "a", "y"), badRef), api.ErrState},
		{"ref 0, and then names that do not rise", series(badRef, ref(1, "b", "x", "a", "y")), api.ErrRange},
		{"a wrong name, and then ref 0", series(badLabels, badRef), api.ErrForm},
		{"a point of ref 0", samples(point(0, 1, 1)), api.ErrRange},
		{"a point of too great a ref", samples(point(1, 1, 1), point(1000001, 1, 1)), api.ErrRange},
		{"a point of a ref below 0", samples(point(-5, 1, 1)), api.ErrRange},
		{"too late a time", samples(point(1, api.MaxTime+1, 1)), api.ErrRange},
		{"too early a time", samples(point(1, -api.MaxTime-1, 1)), api.ErrRange},
		{"the latest time of all", samples(point(1, 1<<63-1, 1)), api.ErrRange},
		{"the earliest time of all", samples(point(1, 1, 1), point(1, -1<<63, 1)), api.ErrRange},
	}
}

// I1: wrong records.
func TestPackWrong(t *testing.T) {
	for _, c := range wrong() {
		if s, e := record.Pack(c.r); s != "" || e != c.want {
			t.Errorf("%s: it is %x %d, not %d", c.what, s, e, c.want)
		}
	}
}
