package press_test

import (
	"math/rand"
	"strings"
	"testing"

	"gleaner/api"
	"gleaner/press"
)

// packs: B3 holds of a text; how many bytes it is then.
func packs(t *testing.T, s string) int {
	t.Helper()
	p, e := press.Pack(s)
	if e != api.OK {
		t.Fatalf("Pack(%.30x), of %d bytes, is %d", s, len(s), e)
	}
	if u, e := press.Unpack(p, api.MaxText); u != s || e != api.OK {
		t.Fatalf("%.30x, of %d bytes, is packed as %.30x; that is %.30x, of %d bytes, %d", s, len(s), p, u, len(u), e)
	}
	if len(p) > len(s)+len(s)/6+32 {
		t.Fatalf("%.30x, of %d bytes, is packed in %d", s, len(s), len(p))
	}
	if q, _ := press.Pack(s); q != p {
		t.Fatalf("%.30x is packed in two ways", s) // P3
	}
	return len(p)
}

// some bytes, of so many that there are.
func some(r *rand.Rand, n, of int) string {
	b := make([]byte, n)
	for i := range b {
		b[i] = byte(r.Intn(of))
	}
	return string(b)
}

// B3: of texts of all lengths, and with few and many bytes that stood there already.
func TestPack(t *testing.T) {
	r := rand.New(rand.NewSource(1))
	for n := range 700 {
		for _, of := range []int{1, 2, 4, 256} {
			packs(t, some(r, n, of))
		}
		packs(t, letters(n))
	}
	for _, n := range []int{2047, 2048, 2049, 4000, 19999, 20000} {
		for _, of := range []int{1, 2, 3, 16, 256} {
			packs(t, some(r, n, of))
		}
	}
}

// B3: bytes that stood there already, as far back as can be, and about the bounds of each element.
func TestPackBack(t *testing.T) {
	r := rand.New(rand.NewSource(2))
	for _, back := range []int{4, 5, 255, 256, 1023, 1024, 2046, 2047, 2048, 2049, 4096, 19800} {
		for _, n := range []int{3, 4, 5, 11, 12, 59, 60, 61, 63, 64, 65, 66, 67, 68, 69, 100} {
			if n > back {
				continue
			}
			s := some(r, back, 256)
			packs(t, s+s[:n])
			packs(t, s[:back-1]+s[:n]+s[:n])
		}
	}
	for between := range 300 {
		s := strings.Repeat("abcd", 2)
		for range 5 {
			s += some(r, between, 256) + "abcd"
		}
		packs(t, s)
	}
}

// B3: a text in which four bytes stood there already again and again, far back, with one other byte between them, grows most.
func TestPackGrowth(t *testing.T) {
	r := rand.New(rand.NewSource(3))
	for _, between := range []int{1, 2, 60, 61, 62, 256, 257, 258} {
		s := some(r, 4000, 256)
		for len(s)+between+4 <= api.MaxText {
			at := r.Intn(1900)
			s += some(r, between, 256) + s[at:at+4]
		}
		packs(t, s)
	}
}

// B3: of one byte, 64 times or more.
func TestPackOneByte(t *testing.T) {
	for n := range api.MaxText + 1 {
		if n > 1000 && n%97 != 0 && n < 19900 {
			continue
		}
		for _, b := range []string{"z", "\x00", "\xff"} {
			if k := packs(t, strings.Repeat(b, n)); n >= 64 && 2*k >= n {
				t.Fatalf("%d times %q is packed in %d bytes", n, b, k)
			}
		}
	}
}

// B3: what stands there again makes a text shorter.
func TestPackShorter(t *testing.T) {
	for _, s := range []string{"abcabcabcabc", strings.Repeat("xyz", 5000), strings.Repeat(letters(1000), 3)} {
		if k := packs(t, s); k >= len(s) {
			t.Errorf("%.30q, of %d bytes, is packed in %d", s, len(s), k)
		}
	}
}

// B3: too long a text.
func TestPackTooLong(t *testing.T) {
	for _, n := range []int{api.MaxText + 1, 3 * api.MaxText} {
		for _, s := range []string{strings.Repeat("q", n), letters(n)} {
			if p, e := press.Pack(s); p != "" || e != api.ErrMany {
				t.Errorf("Pack of %d bytes is %d bytes, %d", n, len(p), e)
			}
		}
	}
}

// P1: whatever is handed in is answered, and what is none has nothing; P3: by the same, each time.
func TestUnpackAnything(t *testing.T) {
	r := rand.New(rand.NewSource(4))
	for range 100000 {
		s := told(r.Intn(80), some(r, r.Intn(30), 256))
		switch r.Intn(3) {
		case 0:
			s = some(r, r.Intn(30), 256)
		case 1:
			p, _ := press.Pack(some(r, r.Intn(80), 2))
			b := []byte(p)
			b[r.Intn(len(b))] ^= byte(1 << r.Intn(8))
			s = string(b)
		}
		most := r.Intn(200)
		u, e := press.Unpack(s, most)
		v, f := press.Unpack(s, most)
		if u != v || e != f {
			t.Fatalf("%x is unpacked in two ways", s)
		}
		if e == api.OK && len(u) > most || e != api.OK && (u != "" || e != api.ErrForm && e != api.ErrMany) {
			t.Fatalf("Unpack(%x, %d) is %x %d", s, most, u, e)
		}
	}
}
