package wire_test

import (
	"reflect"
	"strings"
	"testing"

	"gleaner/api"
	"gleaner/wire"
)

// nothing is written for an empty list, whether it is nil or not.
func same(a, b []api.Series) bool {
	if len(a) != len(b) {
		return false
	}
	for i := range a {
		x, y := a[i], b[i]
		if len(x.Labels) != len(y.Labels) || len(x.Samples) != len(y.Samples) {
			return false
		}
		if len(x.Labels) > 0 && !reflect.DeepEqual(x.Labels, y.Labels) || len(x.Samples) > 0 && !reflect.DeepEqual(x.Samples, y.Samples) {
			return false
		}
	}
	return true
}

func labels(namesAndValues ...string) []api.Label {
	var l []api.Label
	for i := 0; i < len(namesAndValues); i += 2 {
		l = append(l, api.Label{Name: namesAndValues[i], Value: namesAndValues[i+1]})
	}
	return l
}

// A3: what series a text has.
func TestRead(t *testing.T) {
	of := func(x api.Series) []api.Series { return []api.Series{x} }
	for _, c := range []struct {
		what, s string
		want    []api.Series
	}{
		{"nothing", "", nil},
		{"an empty series", "0a00", of(api.Series{})},
		{"two of them", "0a00 0a00", make([]api.Series, 2)},
		{"an empty label", "0a02 0a00", of(api.Series{Labels: labels("", "")})},
		{"an empty sample", "0a02 1200", of(api.Series{Samples: samples(0)})},
		{"a name alone", "0a05 0a03 0a0161", of(api.Series{Labels: labels("a", "")})},
		{"a value alone", "0a05 0a03 120161", of(api.Series{Labels: labels("", "a")})},
		{"the value ahead of the name", "0a08 0a06 120162 0a0161", of(api.Series{Labels: labels("a", "b")})},
		{"the last name, the last value", "0a0e 0a0c 0a0161 120162 0a0163 120164", of(api.Series{Labels: labels("c", "d")})},
		{"the last name is empty", "0a07 0a05 0a0161 0a00", of(api.Series{Labels: labels("", "")})},
		{"bits, the lowest byte first", "0a0b 1209 09 0807060504030201", of(api.Series{Samples: []api.Sample{{Bits: 0x0102030405060708}}})},
		{"the time ahead of the bits", "0a0d 120b 1005 09 0100000000000000", of(api.Series{Samples: []api.Sample{{Time: 5, Bits: 1}}})},
		{"the last bits", "0a14 1212 09 0100000000000000 09 0200000000000000", of(api.Series{Samples: []api.Sample{{Bits: 2}}})},
		{"the last time", "0a06 1204 1001 1002", of(api.Series{Samples: samples(2)})},
		{"a time with noughts at its end", "0a06 1204 10 858000", of(api.Series{Samples: samples(5)})},
		{"a head with a nought at its end", "8a00 00", of(api.Series{})},
		{"only the last time counts", "0a0f 120d 10 80808080808080808001 1002", of(api.Series{Samples: samples(2)})},
		{"the latest time", "0a0b 1209 10 ffffffffffffff0f", of(api.Series{Samples: samples(api.MaxTime)})},
		{"the earliest time", "0a0d 120b 10 81808080808080f0ff01", of(api.Series{Samples: samples(-api.MaxTime)})},
		{"samples ahead of labels, and between them", "0a14 1202 1001 0a03 0a0162 1202 1002 0a03 0a0161 1200",
			of(api.Series{Labels: labels("b", "", "a", ""), Samples: samples(1, 2, 0)})},
		{"other wire types of a series", "08 05 09 0000000000000000 0d 00000000", nil},
		{"other numbers beside series", "10 05 12 02 ffff 19 0000000000000000 25 ffffffff 0a00 1a00", of(api.Series{})},
		{"other wire types of labels and samples", "0a20 0801 090000000000000000 0d00000000 1001 110000000000000000 1500000000", of(api.Series{})},
		{"a third field of a series", "0a03 1a01ff", of(api.Series{})},
		{"other fields of a label", "0a25 0a23 0801 1001 090000000000000000 110000000000000000 0d00000000 1500000000 1a01ff", of(api.Series{Labels: labels("", "")})},
		{"other fields of a sample", "0a1e 121c 087f 0a00 1201ff 0d00000000 1500000000 11ffffffffffffffff 1a00", of(api.Series{Samples: samples(0)})},
		{"the last field number", "f8ffffff0f 01", nil},
		{"the last field number, as bytes", "faffffff0f 02 ffff 0a00", of(api.Series{})},
		{"a passed field's number is as great as may be", "10 ffffffffffffffffff01", nil},
	} {
		l, e := wire.Read(bytesOf(t, c.s))
		if !same(l, c.want) || e != api.OK {
			t.Errorf("%s: it is %v %d, not %v", c.what, l, e, c.want)
		}
	}
}

// A3: what is wrong with a field, wherever it stands.
func TestReadForm(t *testing.T) {
	series := func(s string) string { return "\x0a" + wire.Number(uint64(len(s))) + s }
	sample := func(s string) string { return series("\x12" + wire.Number(uint64(len(s))) + s) }
	for _, wrong := range []string{
		"08",                          // a number is not there
		"10 80",                       // nor does it end
		"10 80808080808080808002",     // it is too great
		"10 8080808080808080808000",   // it has too many bytes
		"09",                          // eight bytes are not there
		"11 01020304050607",           // nor are all of them
		"0d 010203",                   // four bytes are not
		"0a",                          // how many is not there
		"0a 80",                       // nor does it end
		"0a 01",                       // the bytes are not
		"1a 03 6162",                  // nor are all of them
		"1a ffffffffffffffffff01",     // they cannot be
		"1a 808080808080808080 01 00", // nor as many as this
		"80",                          // the head does not end
		"80808080808080808002 00",     // it is too great
		"00 01",                       // field number 0
		"02 00",                       // likewise, of wire type 2
		"8080808010 01",               // a field number that is too great
		"f8ffffffffffffffff01 01",     // likewise
		"0b", "0b 00", "0c", "0c 00",  // wire types that are none
		"0e 00", "0f 00", "1e", "1f",
	} {
		w := bytesOf(t, wrong)
		for what, s := range map[string]string{
			"alone":               w,
			"behind a series":     "\x0a\x00" + w,
			"behind what is past": "\x28\x01" + w,
			"in a series":         series(w),
			"in a label":          series(series(w)),
			"in a sample":         sample(w),
			"behind a time":       sample("\x10\x01" + w),
		} {
			if l, e := wire.Read(s); len(l) != 0 || e != api.ErrForm {
				t.Errorf("%s %s: it is %v %d", wrong, what, l, e)
			}
		}
		// What is passed over may hold anything.
		n := wire.Number(uint64(len(w)))
		for what, s := range map[string]string{
			"in another field":                "\x12" + n + w,
			"in another field of a series":    series("\x1a" + n + w),
			"in another field of a sample":    sample("\x12" + n + w),
			"in a name":                       series(series("\x0a" + n + w)),
			"in another field, series behind": "\x1a" + n + w + "\x0a\x00",
		} {
			if _, e := wire.Read(s); e != api.OK {
				t.Errorf("%s %s: it is %d", wrong, what, e)
			}
		}
	}
}

// A3: a text that ends anywhere within a field is none.
func TestReadCutOff(t *testing.T) {
	l := []api.Series{{Labels: labels("a", "b", "c", strings.Repeat("v", 130)), Samples: samples(1, -1, 300)}}
	s, e := wire.Write(l)
	if e != api.OK {
		t.Fatal(e)
	}
	for k := 1; k < len(s); k++ {
		if l, e := wire.Read(s[:k]); len(l) != 0 || e != api.ErrForm {
			t.Errorf("cut off behind %d bytes it is %v %d", k, l, e)
		}
	}
}

// A3: the bounds, and just beyond them; what is named first, of several errors (P1).
func TestReadBounds(t *testing.T) {
	series := func(s string) string { return "\x0a" + wire.Number(uint64(len(s))) + s }
	late := series("\x12\x09\x10\x80\x80\x80\x80\x80\x80\x80\x10")
	early := series("\x12\x0b\x10\x80\x80\x80\x80\x80\x80\x80\xf0\xff\x01")
	least := series("\x12\x0b\x10\x80\x80\x80\x80\x80\x80\x80\x80\x80\x01")
	greatest := series("\x12\x0a\x10\xff\xff\xff\xff\xff\xff\xff\xff\x7f")
	empty := func(n int) string { return strings.Repeat("\x0a\x00", n) }
	sample := func(n int) string { return series(strings.Repeat("\x12\x00", n)) }
	label := func(n int) string { return series(empty(n)) }
	passed := "\x12" + wire.Number(api.MaxText-4) + strings.Repeat("x", api.MaxText-4)
	for _, c := range []struct {
		what, s string
		want    api.Errno
	}{
		{"MaxText", passed, api.OK},
		{"a byte more", passed + "\x00", api.ErrMany},
		{"a whole field more", passed + "\x10\x00", api.ErrMany},
		{"MaxSeries", empty(api.MaxSeries), api.OK},
		{"a series more", empty(api.MaxSeries + 1), api.ErrMany},
		{"MaxLabels", label(api.MaxLabels), api.OK},
		{"a label more", label(api.MaxLabels + 1), api.ErrMany},
		{"MaxSamples", sample(api.MaxSamples), api.OK},
		{"a sample more", sample(api.MaxSamples + 1), api.ErrMany},
		{"a time later", late, api.ErrRange},
		{"a time earlier", early, api.ErrRange},
		{"the least time", least, api.ErrRange},
		{"the greatest time", greatest, api.ErrRange},
		{"too many series, and no form behind them", empty(201) + "\x08", api.ErrForm},
		{"too many labels, and no form behind them", label(21) + "\x08", api.ErrForm},
		{"a time, and no form behind it", late + "\x00\x00", api.ErrForm},
		{"a time, and too many labels behind it", late + label(21), api.ErrMany},
		{"a time, and too many samples behind it", early + sample(201), api.ErrMany},
		{"a time, and too many series behind it", late + empty(200), api.ErrMany},
	} {
		if l, e := wire.Read(c.s); e != c.want || e != api.OK && len(l) != 0 {
			t.Errorf("%s: %d series, %d, not %d", c.what, len(l), e, c.want)
		}
	}
}

// A3: as many bytes as a text may have are enough for more series than Write would write again: that is no error.
func TestReadShort(t *testing.T) {
	s := "\x0a\x90\x03" + strings.Repeat("\x12\x00", 200)
	s = strings.Repeat(s, 49)
	l, e := wire.Read(s)
	if len(l) != 49 || e != api.OK {
		t.Fatalf("%d series, %d", len(l), e)
	}
	if _, e := wire.Write(l); e != api.ErrMany {
		t.Errorf("written they are %d", e)
	}
}
