package log_test

import (
	"math/rand"
	"strings"
	"testing"

	"gleaner/api"
	"gleaner/log"
)

// part of a kind, with its head.
func part(kind byte, s string) string {
	n, sum := len(s), sumOf(s)
	return string([]byte{kind, byte(n % 256), byte(n / 256), byte(sum), byte(sum >> 8), byte(sum >> 16), byte(sum >> 24)}) + s
}

func noughts(n int) string { return strings.Repeat("\x00", n) }
func some(n int) string    { return strings.Repeat("s", n) }

// appended: this must be behind a log when a record is.
func appended(t *testing.T, to, record, want string) {
	t.Helper()
	if s, e := log.Append(to, record); s != to+want || e != api.OK {
		t.Errorf("%d bytes, and %.200q: it is %q %d, not %q", len(to), record, s, e, want)
	}
}

// H2: bytes, one by one.
func TestBytes(t *testing.T) {
	appended(t, "", "ab", "\x01\x02\x00\x36\x29\xa2\xe2ab")
	appended(t, "", "", "\x01\x00\x00\x00\x00\x00\x00")
	appended(t, "", "\x00", "\x01\x01\x00\x51\x53\x7d\x52\x00")
}

// H2: records that one part has, behind logs that leave more or less of their last page. What the log has does not matter.
func TestOnePart(t *testing.T) {
	appended(t, "", some(121), part(1, some(121)))
	appended(t, "x", some(120), part(1, some(120)))
	appended(t, some(120), "s", part(1, "s"))
	appended(t, some(120), "", part(1, ""))
	appended(t, some(121), "", part(1, ""))
	for n := 122; n < 128; n++ {
		appended(t, some(n), "ab", noughts(128-n)+part(1, "ab"))
		appended(t, some(128+n), "", noughts(128-n)+part(1, ""))
		appended(t, some(n), some(121), noughts(128-n)+part(1, some(121)))
	}
	appended(t, some(128), "ab", part(1, "ab"))
	appended(t, noughts(256), some(121), part(1, some(121)))
	// Noughts behind the last part are not there yet.
	appended(t, "", some(115), part(1, some(115)))
	appended(t, "", some(120), part(1, some(120)))
}

// H2: records that have more parts than one.
func TestMoreParts(t *testing.T) {
	appended(t, "", some(122), part(2, some(121))+part(4, "s"))
	appended(t, "", some(242), part(2, some(121))+part(4, some(121)))
	appended(t, "", some(243), part(2, some(121))+part(3, some(121))+part(4, "s"))
	appended(t, "", some(500), part(2, some(121))+part(3, some(121))+part(3, some(121))+part(3, some(121))+part(4, some(16)))
	appended(t, some(100), some(30), part(2, some(21))+part(4, some(9)))
	// A part has no bytes, if just its head fits.
	appended(t, some(121), "s", part(2, "")+part(4, "s"))
	appended(t, some(121), some(121), part(2, "")+part(4, some(121)))
	appended(t, some(121), some(122), part(2, "")+part(3, some(121))+part(4, "s"))
	appended(t, some(120), "st", part(2, "s")+part(4, "t"))
	for n := 122; n < 128; n++ {
		appended(t, some(n), some(122), noughts(128-n)+part(2, some(121))+part(4, "s"))
	}
	appended(t, "", "a"+some(119)+"b"+"c", part(2, "a"+some(119)+"b")+part(4, "c"))
}

// H2: a record may have MaxText bytes.
func TestLongRecords(t *testing.T) {
	want := part(2, some(121)) + strings.Repeat(part(3, some(121)), 164) + part(4, some(35))
	appended(t, "", some(20000), want)
	for _, to := range []string{"", some(100), some(2000000)} {
		for _, n := range []int{20001, 100000} {
			if s, e := log.Append(to, some(n)); s != "" || e != api.ErrMany {
				t.Errorf("%d bytes, and %d: it is %d bytes, %d", len(to), n, len(s), e)
			}
		}
	}
}

// H2: a log may have 1000000 bytes, its noughts and heads too. (There 64 of a page are written.)
func TestLongLogs(t *testing.T) {
	for _, c := range []struct {
		log, record int
		e           api.Errno
	}{
		{999980, 2, api.OK},
		{999980, 13, api.OK},
		{999980, 14, api.ErrMany},
		{999993, 0, api.OK},
		{999993, 1, api.ErrMany},
		{999994, 0, api.ErrMany},
		{1000000, 0, api.ErrMany},
		{1000001, 0, api.ErrMany},
		{3000000, 5, api.ErrMany},
		{999933, 57, api.OK},
		{999933, 58, api.ErrMany},
		{999929, 57, api.OK}, // just a head fits
		{999929, 58, api.ErrMany},
		{980000, 18879, api.OK},
		{980000, 20000, api.ErrMany},
	} {
		s, e := log.Append(some(c.log), some(c.record))
		if e != c.e || (e == api.OK) != (len(s) > c.log) || len(s) > 1000000 || e != api.OK && s != "" {
			t.Errorf("%d, and %d: it is %d, with %d bytes", c.log, c.record, e, len(s))
		}
	}
	for n := 999900; n <= 1000000; n++ {
		for _, k := range []int{0, 1, 30, 80} {
			s, e := log.Append(some(n), some(k))
			if want := len(behind(n, some(k))); (e == api.OK) != (n+want <= 1000000) || e == api.OK && len(s) != n+want || e != api.OK && (e != api.ErrMany || s != "") {
				t.Errorf("%d, and %d: it is %d, with %d bytes", n, k, e, len(s))
			}
		}
	}
}

// behind a log of so many bytes a record is this: page by page.
func behind(at int, record string) string {
	var pages []string // what each page of some more can have of it
	made := ""
	free := (128 - at%128) % 128
	if free < 7 {
		made, free = noughts(free), 128
	}
	for rest := record; ; free = 128 {
		n := min(free-7, len(rest))
		pages = append(pages, rest[:n])
		rest = rest[n:]
		if rest == "" {
			break
		}
	}
	if len(pages) == 1 {
		return made + part(1, pages[0])
	}
	made += part(2, pages[0])
	for _, p := range pages[1 : len(pages)-1] {
		made += part(3, p)
	}
	return made + part(4, pages[len(pages)-1])
}

// H2: many records behind many logs.
func TestAppendOfMany(t *testing.T) {
	r := rand.New(rand.NewSource(2))
	for range 5000 {
		b := make([]byte, r.Intn(300))
		r.Read(b)
		to := make([]byte, r.Intn(600))
		r.Read(to)
		appended(t, string(to), string(b), behind(len(to), string(b)))
	}
}
