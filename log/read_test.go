package log_test

import (
	"slices"
	"strings"
	"testing"

	"gleaner/log"
)

// read: a log must have these records, and they so many bytes.
func read(t *testing.T, s string, n int, records ...string) {
	t.Helper()
	if l, m := log.Read(s); !slices.Equal(l, records) || m != n {
		t.Errorf("%q: it is %.200q %d, not %.200q %d", s, l, m, records, n)
	}
}

// H3: logs that are whole, whatever begins behind them.
func TestWhole(t *testing.T) {
	ab, long := part(1, "ab"), part(2, some(121))+part(4, "s")
	for _, rest := range []string{"", "x", "\x00", noughts(50), "\x01", "\x01\x00\x00\x00\x00\x00", part(1, "ab")[:8], part(3, "ab"), part(4, "ab"), part(2, "ab"), part(0, ""), part(5, "ab")} {
		read(t, rest, 0)
		read(t, ab+rest, 9, "ab")
		read(t, part(1, "")+rest, 7, "")
		read(t, ab+part(1, "")+ab+rest, 25, "ab", "", "ab")
		read(t, long+rest, 136, some(122))
		read(t, ab+part(1, some(112))+part(1, "c")+rest, 136, "ab", some(112), "c")
	}
	read(t, part(2, some(121))+part(3, some(121))+part(3, some(121))+part(4, ""), 391, some(363))
}

// H3: noughts where no head fits are passed over, and nothing else is; those at the end are of no record.
func TestNoughts(t *testing.T) {
	for n := 115; n <= 120; n++ {
		one, free := part(1, some(n)), 121-n
		read(t, one, n+7, some(n))
		for k := range free {
			read(t, one+noughts(k), n+7, some(n))
		}
		read(t, one+noughts(free), n+7, some(n))
		read(t, one+noughts(free)+part(1, "ab"), 137, some(n), "ab")
		read(t, one+noughts(free-1)+part(1, "ab"), n+7, some(n))
		read(t, one+noughts(free+1)+part(1, "ab"), n+7, some(n))
		read(t, one+part(1, "ab"), n+7, some(n))
		for k := range free {
			b := []byte(noughts(free))
			b[k] = 1
			read(t, one+string(b)+part(1, "ab"), n+7, some(n))
		}
		read(t, part(2, some(n))+noughts(free)+part(4, "ab"), 137, some(n)+"ab")
		read(t, part(2, some(n))+noughts(free-1)+"\xff"+part(4, "ab"), 0)
		read(t, part(2, some(n))+noughts(free-1)+part(4, "ab"), 0)
	}
	// Where just a head fits noughts are none to be passed over.
	read(t, part(1, some(114))+noughts(7)+part(1, "ab"), 121, some(114))
	read(t, part(1, some(113))+noughts(8)+part(1, "ab"), 120, some(113))
	read(t, noughts(128)+part(1, "ab"), 0)
}

// H3: kinds that are none, and kinds that may not come now.
func TestKinds(t *testing.T) {
	for kind := range 256 {
		k := byte(kind)
		if k == 0 || k > 4 {
			read(t, part(1, "a")+part(k, "b")+part(1, "c"), 8, "a")
			read(t, part(k, ""), 0)
			read(t, part(2, "a")+part(k, "b")+part(4, "c"), 0)
		}
	}
	for kinds, want := range map[string][]string{
		"11": {"a", "b"}, "3": nil, "4": nil, "2": nil, "13": {"a"}, "14": {"a"}, "124": {"a", "bc"}, "1234": {"a", "bcd"}, "12334": {"a", "bcde"},
		"21": nil, "22": nil, "214": nil, "224": nil, "231": nil, "2324": nil, "23": nil, "24": {"ab"}, "234": {"abc"}, "244": {"ab"}, "2412": {"ab", "c"}, "2424": {"ab", "cd"}, "243": {"ab"}, "1211": {"a"}, "31": nil, "41": nil,
	} {
		s, n := "", 0
		for i, k := range kinds {
			s += part(byte(k-'0'), string(rune('a'+i)))
		}
		for _, w := range want {
			n += 8 * len(w)
		}
		read(t, s, n, want...)
	}
}

// H3: a part may not have more bytes than the page, or the log, has.
func TestSizes(t *testing.T) {
	read(t, part(1, some(121)), 128, some(121))
	read(t, part(1, some(122)), 0)
	read(t, part(1, some(122))+part(1, "a"), 0)
	read(t, part(1, "a")+part(1, some(113)), 128, "a", some(113))
	read(t, part(1, "a")+part(1, some(114)), 8, "a")
	read(t, part(1, some(256)), 0)
	read(t, part(1, some(65535)), 0)
	read(t, part(2, some(122))+part(4, "a"), 0)
	read(t, part(2, some(121))+part(4, some(122)), 0)
	for n := range 9 {
		read(t, part(1, "a")+part(1, "ab")[:n], 8, "a")
	}
	// A head that ends with its page: the bytes may not stand in the next one.
	read(t, part(1, some(114))+part(1, ""), 128, some(114), "")
	read(t, part(1, some(114))+part(1, "ab"), 121, some(114))
	read(t, part(1, some(114))+part(1, some(128)), 121, some(114))
	read(t, part(1, some(114))+part(2, "a")+part(4, "b"), 121, some(114))
	read(t, part(1, some(114))+part(2, "")+part(4, "b"), 136, some(114), "b")
	// The higher byte of how many there are counts.
	b := []byte(part(1, "ab"))
	b[2] = 1
	read(t, string(b)+some(300), 0)
}

// H3: each byte that is another one is noticed: in a number, a check, or what they are of; and in a kind, if it is not made one that may come.
func TestTurned(t *testing.T) {
	s := part(1, "ab") + part(2, some(112)) + part(3, some(121)) + part(4, some(10)) + part(1, "")
	records, ends := []string{"ab", some(243), ""}, []int{9, 273, 280}
	read(t, s, 280, records...)
	for i := range len(s) {
		for _, by := range []byte{1, 2, 4, 128, 255} {
			b := []byte(s)
			b[i] ^= by
			k := 0
			for ends[k] <= i {
				k++
			}
			n := 0
			if k > 0 {
				n = ends[k-1]
			}
			read(t, string(b), n, records[:k]...)
		}
	}
}

// H3: no bound of other calls is one of Read.
func TestLongReads(t *testing.T) {
	s := strings.Repeat(part(1, some(121)), 10000)
	if l, n := log.Read(s); len(l) != 10000 || n != 1280000 {
		t.Errorf("it is %d %d", len(l), n)
	}
	s = part(2, some(121)) + strings.Repeat(part(3, some(121)), 1000) + part(4, "")
	read(t, s, 1001*128+7, some(1001*121))
	read(t, strings.Repeat(part(1, ""), 18), 126, make([]string, 18)...)
}
