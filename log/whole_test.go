package log_test

import (
	"math/rand"
	"reflect"
	"regexp"
	"slices"
	"strings"
	"testing"
	"unsafe"

	"gleaner/api"
	"gleaner/log"
)

// stood: a part as a page has it, and at which byte of the log it ends.
type stood struct {
	kind byte
	s    string
	end  int
}

// inPages: the parts of a log, page by page, up to what is none.
func inPages(s string) []stood {
	var all []stood
	for from := 0; from < len(s); from += 128 {
		page := s[from:min(from+128, len(s))]
		at := 0
		for 128-at >= 7 {
			if len(page)-at < 7 {
				return all
			}
			n := int(page[at+1]) + 256*int(page[at+2])
			if at+7+n > len(page) || part(page[at], page[at+7:at+7+n]) != page[at:at+7+n] {
				return all
			}
			all = append(all, stood{page[at], page[at+7 : at+7+n], from + at + 7 + n})
			at += 7 + n
		}
		if strings.Trim(page[at:], "\x00") != "" || len(page) < 128 {
			return all
		}
	}
	return all
}

// Kinds of parts, one byte each, that make records.
var (
	one = regexp.MustCompile(`^(?:\x01|\x02\x03*\x04)`)
	all = regexp.MustCompile(`^(?:\x01|\x02\x03*\x04)*`)
)

// asTold: what Read must say of a log.
func asTold(s string) ([]string, int) {
	parts := inPages(s)
	kinds := make([]rune, len(parts))
	for i, p := range parts {
		kinds[i] = rune(p.kind)
	}
	var records []string
	n, at := 0, 0
	for rest := all.FindString(string(kinds)); rest != ""; {
		size := len(one.FindString(rest))
		record := ""
		for _, p := range parts[at : at+size] {
			record += p.s
		}
		at, rest = at+size, rest[size:]
		records, n = append(records, record), parts[at-1].end
	}
	return records, n
}

func hold(t *testing.T, s string) {
	t.Helper()
	l, n := log.Read(s)
	if m, k := asTold(s); !slices.Equal(l, m) || n != k {
		t.Fatalf("%q is\n%q %d, not\n%q %d", s, l, n, m, k)
	}
}

// anyRecord: few bytes, or so many that few are left of a page, or many.
func anyRecord(r *rand.Rand) string {
	sizes := []int{0, 0, 1, 2, r.Intn(20), 100 + r.Intn(30), r.Intn(300), r.Intn(700)}
	b := make([]byte, sizes[r.Intn(len(sizes))])
	for i := range b {
		b[i] = "\x00\x01\x02ab\xff"[r.Intn(6)]
	}
	return string(b)
}

// anyLog of some records, and those; and up to which byte each is there.
func anyLog(t *testing.T, r *rand.Rand) (string, []string, []int) {
	s := ""
	var records []string
	var ends []int
	for range r.Intn(8) {
		x := anyRecord(r)
		u, e := log.Append(s, x)
		if e != api.OK {
			t.Fatalf("%q behind %q: %d", x, s, e)
		}
		s = u
		records, ends = append(records, x), append(ends, len(s))
	}
	return s, records, ends
}

// anyParts: parts that are right, in any order, and what may stand between them.
func anyParts(r *rand.Rand) string {
	s := ""
	for range r.Intn(12) {
		free := 128 - len(s)%128
		n := min(r.Intn(40), max(free-7, 0))
		switch r.Intn(8) {
		case 0:
			n = max(free-7-r.Intn(8), 0)
		case 1:
			n = r.Intn(130)
		}
		if free < 7 && r.Intn(8) > 0 {
			s += noughts(free)
		}
		kinds := "\x01\x02\x04"
		if r.Intn(2) == 0 {
			kinds = "\x00\x01\x02\x03\x04\x05"
		}
		s += part(kinds[r.Intn(len(kinds))], some(n))
	}
	return s
}

// marred: a text with a few bytes that are others, or more, or gone.
func marred(r *rand.Rand, s string) string {
	b := []byte(s)
	for range 1 + r.Intn(2) {
		i, c := r.Intn(len(b)+1), byte(r.Intn(256))
		switch {
		case i == len(b) || r.Intn(4) == 0:
			b = slices.Insert(b, i, c)
		case r.Intn(3) == 0:
			b = slices.Delete(b, i, i+1)
		default:
			b[i] = c
		}
	}
	return string(b)
}

// H3: many logs, as they are to be read.
func TestAsItStands(t *testing.T) {
	r := rand.New(rand.NewSource(3))
	for range 5000 {
		s, _, _ := anyLog(t, r)
		hold(t, s)
		hold(t, marred(r, s))
		hold(t, s[:r.Intn(len(s)+1)])
	}
	for range 20000 {
		s := anyParts(r)
		hold(t, s)
		hold(t, marred(r, s))
	}
}

// H4: what is written is read as it was; a log that is cut off anywhere has the records that were whole; and what is appended to these is read behind them.
func TestCutAnywhere(t *testing.T) {
	r := rand.New(rand.NewSource(4))
	for range 100 {
		s, records, ends := anyLog(t, r)
		for cut := 0; cut <= len(s); cut++ {
			k, n := 0, 0
			for k < len(ends) && ends[k] <= cut {
				n = ends[k]
				k++
			}
			read(t, s[:cut], n, records[:k]...)
			if r.Intn(10) > 0 {
				continue
			}
			more := anyRecord(r)
			u, e := log.Append(s[:n], more)
			if e != api.OK {
				t.Fatalf("%q behind %q: %d", more, s[:n], e)
			}
			read(t, u, len(u), slices.Concat(records[:k], []string{more})...)
		}
	}
}

// H4: the same of logs that are marred somewhere, and of any other bytes.
func TestBehindWhatIsWhole(t *testing.T) {
	r := rand.New(rand.NewSource(5))
	for range 5000 {
		s, _, _ := anyLog(t, r)
		for _, x := range []string{marred(r, s), anyParts(r)} {
			l, n := log.Read(x)
			more := anyRecord(r)
			u, e := log.Append(x[:n], more)
			if e != api.OK {
				t.Fatalf("%q behind %q: %d", more, x[:n], e)
			}
			read(t, u, len(u), append(l, more)...)
			read(t, x[:n], n, l...)
		}
	}
}

// P1: whatever is handed in is answered; P3: by the same, each time.
func TestAnything(t *testing.T) {
	r := rand.New(rand.NewSource(6))
	for range 5000 {
		b := make([]byte, r.Intn(400))
		r.Read(b)
		x, y := string(b), anyParts(r)
		all := func() []any {
			s, e := log.Append(x, y)
			l, n := log.Read(y)
			m, k := log.Read(x)
			return []any{log.Check(x), s, e, l, n, m, k}
		}
		if a, b := all(), all(); !reflect.DeepEqual(a, b) {
			t.Fatalf("%q, and %q: %v, and then %v", x, y, a, b)
		}
	}
	for c := range 256 {
		hold(t, strings.Repeat(string([]byte{byte(c)}), 300))
	}
}

// lies: is a text a piece of another one?
func lies(s, in string) bool {
	at, from := uintptr(unsafe.Pointer(unsafe.StringData(s))), uintptr(unsafe.Pointer(unsafe.StringData(in)))
	return len(s) > 0 && at >= from && at < from+uintptr(len(in))
}

// P2: an answer is new memory, the caller's.
func TestNew(t *testing.T) {
	record := some(200)
	s, _ := log.Append("", record)
	u, _ := log.Append(s, "ab")
	if lies(s, record) || lies(u, s) {
		t.Error("a log is not new")
	}
	l, _ := log.Read(u)
	if len(l) != 2 {
		t.Fatalf("%q has %q", u, l)
	}
	for _, x := range l {
		if lies(x, u) {
			t.Errorf("a record %q is not new", x)
		}
	}
	l[0] = "other"
	_ = append(l[:1], "other")
	read(t, u, len(u), record, "ab")
}
