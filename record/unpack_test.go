package record_test

import (
	"encoding/binary"
	"strings"
	"testing"

	"gleaner/api"
	"gleaner/record"
)

// none: a text must be no record.
func none(t *testing.T, what, s string) {
	t.Helper()
	if r, e := record.Unpack(s); !same(r, api.Record{}) || e != api.ErrForm {
		t.Errorf("%s: %x is %v %d", what, s, r, e)
	}
}

// I2 and I6: what is packed is unpacked; and neither less nor more is anything.
func TestUnpack(t *testing.T) {
	for _, c := range forms {
		s := bytesOf(t, c.s)
		if r, e := record.Unpack(s); !same(r, c.r) || e != api.OK {
			t.Errorf("%s: it is %v %d, not %v", c.s, r, e, c.r)
		}
		for n := range s {
			none(t, "cut off", s[:n])
		}
		for _, more := range []string{"\x00", "x", "\x80", s} {
			none(t, "with more behind it", s+more)
		}
	}
}

// I2: texts that are no records, though numbers of others could be read of them.
func TestUnpackWrong(t *testing.T) {
	for _, s := range []string{
		"", "00", "00 00", "03", "03 00", "ff 00", "81 01 00", "04 01 01 01 0161 0178",
		// Noughts at the end of each number.
		"01 8000", "02 8000",
		"01 8100 01 01 0161 0178", "01 01 8100 01 0161 0178", "01 01 01 8100 0161 0178", "01 01 01 01 810061 0178", "01 01 01 01 0161 810078",
		"02 8100 01 02 0100000000000000", "02 01 8100 02 0100000000000000", "02 01 01 8200 0100000000000000", "02 01 01 8000 0100000000000000",
		// Numbers that are none, or too great.
		"01 ffffffffffffffffff02", "01 80808080808080808000", "01 8080808080808080808000", "01 ffffffffffffffffff01", "02 ffffffffffffffffff01",
		"01 01 ffffffffffffffffff01 01 0161 0178", "01 01 80808080808080808001 01 0161 0178", "01 01 8180808080808080 80 01 01 0161 0178",
		"01 01 01 ffffffffffffffffff01 0161 0178", "01 01 01 01 ffffffffffffffffff0161 0178", "01 01 01 01 0161 ffffffffffffffffff0178",
		// What no record has, as of I1.
		"01 01 00 01 0161 0178", "01 01 c1843d 01 0161 0178", "01 01 01 00", "01 01 01 01 0131 0178", "01 01 01 01 00 0178", "01 01 01 01 0161 00",
		"01 01 01 02 0162 0178 0161 0178", "01 01 01 02 0161 0178 0161 0178",
		"02 01 00 02 0100000000000000", "02 01 c1843d 02 0100000000000000", "02 01 ffffffffffffffffff01 02 0100000000000000",
		"02 01 01 80808080808080 20 0100000000000000", "02 01 01 ffffffffffffff1f 0100000000000000", "02 01 01 ffffffffffffffffff01 0100000000000000", "02 01 01 feffffffffffffffff01 0100000000000000",
		// The bytes of a record of the other kind.
		"01 01 01 02 0100000000000000", "02 01 01 01 0161 0178",
		// More of them than there are bytes, and less.
		"01 02 01 01 0161 0178", "01 00 01 01 0161 0178", "01 01 01 02 0161 0178", "01 01 01 01 0261 0178", "02 02 01 02 0100000000000000", "02 00 01 02 0100000000000000", "02 01 01 02 01000000000000", "02 01 01 02 010000000000000000",
	} {
		none(t, s, bytesOf(t, s))
	}
}

// I2: more than a record may have.
func TestUnpackBounds(t *testing.T) {
	numberOf := func(n int) string { return string(binary.AppendUvarint(nil, uint64(n))) }
	aRef, aPoint := "\x01\x01\x01a\x01x", "\x01\x02\x01\x00\x00\x00\x00\x00\x00\x00"
	for _, n := range []int{200, 201, 300, 20000} {
		for what, s := range map[string]string{
			"refs":   "\x01" + numberOf(n) + strings.Repeat(aRef, n),
			"points": "\x02" + numberOf(n) + strings.Repeat(aPoint, n),
		} {
			if _, e := record.Unpack(s); (e == api.OK) != (n == 200) || e != api.OK && e != api.ErrForm {
				t.Errorf("%d %s: it is %d", n, what, e)
			}
		}
	}
	for n := 19; n < 23; n++ {
		s := "\x01\x01\x01" + numberOf(n)
		for _, x := range many(n, "v") {
			s += "\x02" + x.Name + "\x01v"
		}
		if _, e := record.Unpack(s); (e == api.OK) != (n <= 20) {
			t.Errorf("%d labels: it is %d", n, e)
		}
	}
	for _, c := range []struct {
		name, value int
		right       bool
	}{{40, 100, true}, {41, 100, false}, {40, 101, false}} {
		s := "\x01\x01\x01\x01" + numberOf(c.name) + strings.Repeat("n", c.name) + numberOf(c.value) + strings.Repeat("v", c.value)
		if _, e := record.Unpack(s); (e == api.OK) != c.right {
			t.Errorf("a name of %d bytes, and a value of %d: it is %d", c.name, c.value, e)
		}
	}
}
