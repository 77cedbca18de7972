package wire_test

import (
	"encoding/binary"
	"strings"
	"testing"

	"gleaner/api"
	"gleaner/wire"
)

// edges: where a number gets one more byte, and what is beside.
func edges() []uint64 {
	l := []uint64{0, 1, 2, 127, 300, 1 << 53, 1<<64 - 1, 1<<64 - 2}
	for shift := 7; shift < 64; shift += 7 {
		l = append(l, 1<<shift-1, 1<<shift, 1<<shift+1)
	}
	return append(l, 1<<63-1, 1<<63, 1<<63+1)
}

// A1: the digits to the base of 128, the lowest first.
func TestNumber(t *testing.T) {
	for _, n := range edges() {
		if got, want := wire.Number(n), string(binary.AppendUvarint(nil, n)); got != want {
			t.Errorf("Number(%d) is %x, not %x", n, got, want)
		}
	}
	if got := wire.Number(300); got != "\xac\x02" {
		t.Errorf("Number(300) is %x", got)
	}
}

// A1: a number is read as it was written, whatever is behind it.
func TestReadNumber(t *testing.T) {
	for _, n := range edges() {
		s := wire.Number(n)
		for _, behind := range []string{"", "\x00", "x", "\x80", "\xff\xff", strings.Repeat("\xff", 20)} {
			got, size, e := wire.ReadNumber(s + behind)
			if got != n || size != len(s) || e != api.OK {
				t.Errorf("ReadNumber(%x) is %d %d %d", s+behind, got, size, e)
			}
		}
		for k := range s {
			got, size, e := wire.ReadNumber(s[:k])
			if got != 0 || size != 0 || e != api.ErrForm {
				t.Errorf("ReadNumber(%x) is %d %d %d", s[:k], got, size, e)
			}
		}
	}
}

// A1: noughts at a number's end, and what is no number.
func TestReadNumberEdges(t *testing.T) {
	on := func(n int) string { return strings.Repeat("\x80", n) }
	for _, c := range []struct {
		s    string
		n    uint64
		size int
		e    api.Errno
	}{
		{"\x80\x00", 0, 2, api.OK},
		{"\x85\x80\x00", 5, 3, api.OK},
		{on(8) + "\x00", 0, 9, api.OK},
		{on(9) + "\x00", 0, 10, api.OK},
		{on(9) + "\x01", 1 << 63, 10, api.OK},
		{strings.Repeat("\xff", 9) + "\x01", 1<<64 - 1, 10, api.OK},
		{on(9) + "\x02", 0, 0, api.ErrRange},
		{on(9) + "\x7f", 0, 0, api.ErrRange},
		{on(10) + "\x00", 0, 0, api.ErrRange},
		{on(10) + "\x01", 0, 0, api.ErrRange},
		{on(30) + "\x00", 0, 0, api.ErrRange},
		{"", 0, 0, api.ErrForm},
		{on(1), 0, 0, api.ErrForm},
		{on(9), 0, 0, api.ErrForm},
		// The text ends within these, which is named ahead of their having too many bytes (P1).
		{on(10), 0, 0, api.ErrForm},
		{on(11), 0, 0, api.ErrForm},
		{on(3000), 0, 0, api.ErrForm},
	} {
		n, size, e := wire.ReadNumber(c.s)
		if n != c.n || size != c.size || e != c.e {
			t.Errorf("ReadNumber(%x) is %d %d %d, not %d %d %d", c.s, n, size, e, c.n, c.size, c.e)
		}
	}
}
