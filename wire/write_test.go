package wire_test

import (
	"encoding/hex"
	"slices"
	"strings"
	"testing"

	"gleaner/api"
	"gleaner/wire"
)

// bytesOf a text that is told to the base of 16; blanks do not matter.
func bytesOf(t *testing.T, s string) string {
	t.Helper()
	b, err := hex.DecodeString(strings.ReplaceAll(s, " ", ""))
	if err != nil {
		t.Fatal(err)
	}
	return string(b)
}

func samples(times ...int) []api.Sample {
	var l []api.Sample
	for _, time := range times {
		l = append(l, api.Sample{Time: time})
	}
	return l
}

// A2: how series are written.
func TestWrite(t *testing.T) {
	x := func(n, v string) api.Label { return api.Label{Name: n, Value: v} }
	for _, c := range []struct {
		what string
		l    []api.Series
		want string
	}{
		{"nothing", nil, ""},
		{"no series", []api.Series{}, ""},
		{"an empty series", []api.Series{{}}, "0a 00"},
		{"three of them", make([]api.Series, 3), "0a00 0a00 0a00"},
		{"a label", []api.Series{{Labels: []api.Label{x("job", "x")}}}, "0a 0a 0a 08 0a 03 6a6f62 12 01 78"},
		{"an empty label", []api.Series{{Labels: []api.Label{x("", "")}}}, "0a 06 0a 04 0a 00 12 00"},
		{"labels in their order", []api.Series{{Labels: []api.Label{x("b", "1"), x("a", "2"), x("b", "1")}}},
			"0a 18 0a 06 0a 01 62 12 01 31 0a 06 0a 01 61 12 01 32 0a 06 0a 01 62 12 01 31"},
		{"a sample's bits and time", []api.Series{{Samples: []api.Sample{{Time: 300, Bits: 0x0102030405060708}}}},
			"0a 0e 12 0c 09 0807060504030201 10 ac02"},
		{"a sample of noughts", []api.Series{{Samples: samples(0)}}, "0a 0d 12 0b 09 0000000000000000 10 00"},
		{"a time below 0", []api.Series{{Samples: samples(-1)}}, "0a 16 12 14 09 0000000000000000 10 ffffffffffffffffff01"},
		{"the last times", []api.Series{{Samples: samples(api.MaxTime, -api.MaxTime)}},
			"0a 2a 12 12 09 0000000000000000 10 ffffffffffffff0f 12 14 09 0000000000000000 10 81808080808080f0ff01"},
		{"labels ahead of samples", []api.Series{{Samples: samples(1), Labels: []api.Label{x("a", "b")}}, {Samples: samples(2)}},
			"0a 15 0a 06 0a 01 61 12 01 62 12 0b 09 0000000000000000 10 01 0a 0d 12 0b 09 0000000000000000 10 02"},
		{"how many, in two bytes", []api.Series{{Labels: []api.Label{x("n", strings.Repeat("v", 128))}}},
			"0a 8901 0a 8601 0a 01 6e 12 8001" + strings.Repeat("76", 128)},
	} {
		want := bytesOf(t, c.want)
		s, e := wire.Write(c.l)
		if s != want || e != api.OK {
			t.Errorf("%s: it is %x %d, not %x", c.what, s, e, want)
		}
	}
}

// longest is a series of which Write makes MaxText bytes and more.
func longest(more int) []api.Series {
	return []api.Series{{Labels: []api.Label{{Value: strings.Repeat("v", api.MaxText-14+more)}}}}
}

// with a series that has labels, samples.
func with(labels []api.Label, samples []api.Sample) []api.Series {
	return []api.Series{{}, {Labels: labels, Samples: samples}}
}

// A2: the bounds, and just beyond them; what is named first, of several errors (P1).
func TestWriteBounds(t *testing.T) {
	late, early := samples(api.MaxTime+1), samples(-api.MaxTime-1)
	long := strings.Repeat("n", api.MaxText+1)
	for _, c := range []struct {
		what string
		l    []api.Series
		want api.Errno
	}{
		{"MaxSeries", make([]api.Series, api.MaxSeries), api.OK},
		{"a series more", make([]api.Series, api.MaxSeries+1), api.ErrMany},
		{"MaxLabels", with(make([]api.Label, api.MaxLabels), nil), api.OK},
		{"a label more", with(make([]api.Label, api.MaxLabels+1), nil), api.ErrMany},
		{"MaxSamples", with(nil, make([]api.Sample, api.MaxSamples)), api.OK},
		{"a sample more", with(nil, make([]api.Sample, api.MaxSamples+1)), api.ErrMany},
		{"a name that is too long", with([]api.Label{{Name: long}}, nil), api.ErrMany},
		{"a value that is too long", with([]api.Label{{Value: long}}, nil), api.ErrMany},
		{"the last time", with(nil, samples(0, api.MaxTime)), api.OK},
		{"the first time", with(nil, samples(0, -api.MaxTime)), api.OK},
		{"a time later", with(nil, append(samples(0), late...)), api.ErrRange},
		{"a time earlier", with(nil, append(samples(0), early...)), api.ErrRange},
		{"the greatest int", with(nil, samples(1<<63-1)), api.ErrRange},
		{"the least int", with(nil, samples(-1<<63)), api.ErrRange},
		{"MaxText", longest(0), api.OK},
		{"a byte more", longest(1), api.ErrMany},
		{"a whole series more", append(longest(0), api.Series{}), api.ErrMany},
		{"much too much", slices.Repeat(with(slices.Repeat([]api.Label{{Name: long[1:], Value: long[1:]}}, 20), nil), 100), api.ErrMany},
		{"a time, and too many labels behind it", append(with(nil, late), with(make([]api.Label, 21), nil)...), api.ErrMany},
		{"a time, and a name behind it", append(with(nil, late), with([]api.Label{{Name: long}}, nil)...), api.ErrMany},
		{"a time, and a value ahead of it", with([]api.Label{{Value: long}}, late), api.ErrMany},
		{"a time, and too many bytes", append(longest(1), api.Series{Samples: early}), api.ErrRange},
	} {
		s, e := wire.Write(c.l)
		if e != c.want || e != api.OK && s != "" {
			t.Errorf("%s: %d bytes, %d, not %d", c.what, len(s), e, c.want)
		}
	}
	if s, _ := wire.Write(longest(0)); len(s) != api.MaxText {
		t.Errorf("the longest one has %d bytes", len(s))
	}
}
