package log_test

import (
	"hash/crc32"
	"math/rand"
	"strings"
	"testing"

	"gleaner/log"
)

// H1: sums that are known.
func TestCheck(t *testing.T) {
	for s, want := range map[string]uint32{
		"":                         0,
		"a":                        3251651376,
		"123456789":                3808858755,
		"\x00":                     1383945041,
		strings.Repeat("\x00", 32): 2324772522,
		strings.Repeat("\xff", 32): 1655221059,
		"gleaner":                  1871288404,
		strings.Repeat("\xff", 4):  4294967295,
	} {
		if n := log.Check(s); n != want {
			t.Errorf("%q: it is %d, not %d", s, n, want)
		}
	}
}

// sumOf a text by the library.
func sumOf(s string) uint32 {
	return crc32.Checksum([]byte(s), crc32.MakeTable(crc32.Castagnoli))
}

// H1: as the library has it, of each byte alone, and of many texts.
func TestCheckOfMany(t *testing.T) {
	r := rand.New(rand.NewSource(1))
	hold := func(s string) {
		if n := log.Check(s); n != sumOf(s) {
			t.Fatalf("%q: it is %d, not %d", s, n, sumOf(s))
		}
	}
	for c := range 256 {
		hold(string([]byte{byte(c)}))
		hold(string([]byte{'a', byte(c)}))
	}
	for range 2000 {
		b := make([]byte, r.Intn(300))
		r.Read(b)
		hold(string(b))
	}
	hold(strings.Repeat("x", 20000))
}
