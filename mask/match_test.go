package mask_test

import (
	"math/rand"
	"reflect"
	"regexp"
	"slices"
	"strings"
	"testing"
	"unsafe"

	"gleaner/api"
	"gleaner/mask"
)

// D2: the whole text, and which way is the first.
func TestMatch(t *testing.T) {
	no := []string{"no"}
	for _, c := range []struct {
		m, text string
		want    []string
	}{
		{"", "", nil},
		{"", "a", no},
		{"a", "a", nil},
		{"a", "", no},
		{"a", "ab", no},
		{"a", "ba", no},
		{"abc", "abc", nil},
		{"abc", "ab", no},
		{"abc", "abd", no},
		{"a|b", "a", nil},
		{"a|b", "b", nil},
		{"a|b", "ab", no},
		{"ab|cd", "acd", no},
		{"ab|cd", "abd", no},
		{"ab|cd", "cd", nil},
		{"a|", "", nil},
		{"|a", "a", nil},
		{".", "", no},
		{".", "\n", nil},
		{".", "\x00", nil},
		{".", "\xff", nil},
		{".", "é", no},
		{"..", "é", nil},
		{"^a$", "a", no},
		{"^a$", "^a$", nil},
		{"a{2}", "aa", no},
		{"a{2}", "a{2}", nil},
		{`\.\*\\\(`, `.*\(`, nil},
		{`\.`, "x", no},
		{"[abx-z]", "a", nil},
		{"[abx-z]", "c", no},
		{"[abx-z]", "w", no},
		{"[abx-z]", "x", nil},
		{"[abx-z]", "y", nil},
		{"[abx-z]", "z", nil},
		{"[abx-z]", "{", no},
		{"[abx-z]", "ab", no},
		{"[abx-z]", "", no},
		{"[^abx-z]", "y", no},
		{"[^abx-z]", "c", nil},
		{"[^abx-z]", "\xff", nil},
		{"[^abx-z]", "", no},
		{"[+-/]", "-", nil},
		{"[.]", "a", no},
		{"[^\x00-\xff]", "a", no},
		{"[^\x00-\xff]*", "", nil},
		{"a*", "", nil},
		{"a*", "aaa", nil},
		{"a*", "aab", no},
		{"a+", "", no},
		{"a+", "a", nil},
		{"a+", "aaa", nil},
		{"a?", "", nil},
		{"a?", "a", nil},
		{"a?", "aa", no},
		{"ab*", "abab", no},
		{"(ab)*", "abab", []string{"ab"}},
		{"(ab)*", "", []string{""}},
		{"()", "", []string{""}},
		{"(a)|(b)", "b", []string{"", "b"}},
		{"(a|b)+c", "abc", []string{"b"}},
		{"(a|ab)(c|bcd)(d*)", "abcd", []string{"a", "bcd", ""}},
		{"(ab|a)(c|bcd)(d*)", "abcd", []string{"ab", "c", "d"}},
		{"(a*)(a*)", "aa", []string{"aa", ""}},
		{"(a+)(a+)", "aaa", []string{"aa", "a"}},
		{"(a?)(a?)", "a", []string{"a", ""}},
		{"(a?)(a)", "a", []string{"", "a"}},
		{"(a)?(a)?", "a", []string{"a", ""}},
		{"(|a)(a|)", "a", []string{"", "a"}},
		{"(a|)(a|)", "a", []string{"a", ""}},
		{"(a*)(ab)*(b*)", "abb", []string{"a", "", "bb"}},
		{"(.*)-(.*)", "a-b-c", []string{"a-b", "c"}},
		{"((a)(b))c", "abc", []string{"ab", "a", "b"}},
		{"((a*)(b))+", "aabb", []string{"b", "", "b"}},
		{"(((a)))", "a", []string{"a", "a", "a"}},
		// The last round in which each was gone through, not the last round of all.
		{"((a)|(b))+", "ab", []string{"b", "a", "b"}},
		{"((a)|(b)|c)*", "abcc", []string{"c", "a", "b"}},
		{"((a)?b)+", "abb", []string{"b", "a"}},
		{"((a)|b)*", "", []string{"", ""}},
		{"(a|(b)|(c))+", "bca", []string{"a", "b", "c"}},
		// A way that fails leaves nothing.
		{"(a)(b)c|(a)bd", "abd", []string{"", "", "a"}},
		{"((a)b)?(.)*", "ac", []string{"", "", "c"}},
		{"((a)|b)+c|(.*)", "abab", []string{"", "", "abab"}},
		{"(a*)?", "", []string{""}},
		{"(a*)?", "aa", []string{"aa"}},
		{"(x(a*)?)+", "xaax", []string{"x", ""}},
		{strings.Repeat("(.)", 9), "abcdefghi", strings.Split("abcdefghi", "")},
	} {
		ok, l, e := mask.Match(c.m, c.text)
		if want := !slices.Equal(c.want, no); ok != want || e != api.OK || want && !slices.Equal(l, c.want) || !want && len(l) != 0 {
			t.Errorf("Match(%q, %q) is %v %q %d, not %q", c.m, c.text, ok, l, e, c.want)
		}
	}
}

// D2: each byte, and each set.
func TestMatchBytes(t *testing.T) {
	is := func(m, text string, want bool) {
		t.Helper()
		if ok, _, e := mask.Match(m, text); ok != want || e != api.OK {
			t.Errorf("Match(%q, %q) is %v %d", m, text, ok, e)
		}
	}
	for i := range 256 {
		c := string([]byte{byte(i)})
		is(".", c, true)
		is("[\x00-\xff]", c, true)
		is("[^\x00-\xff]", c, false)
		is("[\x00-\x7f]", c, i < 128)
		is("[^\x00-\x7f]", c, i >= 128)
		is("[?-C\x80\xbf-\xc1]", c, i >= 63 && i <= 67 || i == 128 || i >= 191 && i <= 193)
		for k := range 256 {
			d := string([]byte{byte(k)})
			if !strings.Contains(`*+?()[]|.\`, c) {
				is(c, d, i == k)
			}
			if b := c[0]; !(b >= 'a' && b <= 'z' || b >= 'A' && b <= 'Z' || b >= '0' && b <= '9') {
				is(`\`+c, d, i == k)
			}
			if !strings.Contains(`[]\^-`, c) {
				is("["+c+"]", d, i == k)
				is("[^"+c+"]", d, i != k)
			}
		}
	}
}

// twin: a mask, and the same for the library's regexp.
type twin struct {
	r              *rand.Rand
	mask, pattern  strings.Builder
	groups, pieces int
}

func (w *twin) both(m, p string) {
	w.mask.WriteString(m)
	w.pattern.WriteString(p)
}

// rows, and whether they may take nothing.
func (w *twin) rows(deep int) bool {
	nothing := false
	for i := range 1 + w.r.Intn(3)*w.r.Intn(2) {
		if i > 0 {
			w.both("|", "|")
		}
		empty := true
		for range w.r.Intn(4) {
			empty = w.piece(deep) && empty
		}
		nothing = nothing || empty
	}
	return nothing
}

func (w *twin) piece(deep int) bool {
	nothing := false
	w.pieces++
	switch k := w.r.Intn(8); {
	case k < 3 && deep > 0 && w.groups < api.MaxGroups && w.pieces < 12:
		w.groups++
		w.both("(", "(")
		nothing = w.rows(deep - 1)
		w.both(")", ")")
	case k == 3:
		w.both(".", ".")
	case k == 4:
		w.both("[^b]", "[^b]")
	case k == 5:
		w.both("[b-c]", "[b-c]")
	default:
		c := string("abc"[w.r.Intn(3)])
		w.both(c, c)
	}
	switch k := w.r.Intn(8); {
	case k == 0 || nothing && k < 3:
		w.both("?", "?")
		return true
	case k == 1:
		w.both("*", "*")
		return true
	case k == 2:
		w.both("+", "+")
	}
	return nothing
}

// D2: as the library's regexp tells, of many masks and texts.
func TestMatchAsRegexp(t *testing.T) {
	r := rand.New(rand.NewSource(2))
	matches := 0
	for range 20000 {
		w := twin{r: r}
		w.rows(3)
		m := w.mask.String()
		if len(m) > api.MaxMask {
			continue
		}
		if n, f := mask.Check(m); n != w.groups || f != (api.Fault{}) {
			t.Fatalf("Check(%q) is %d %v, not %d", m, n, f, w.groups)
		}
		re := regexp.MustCompile(`(?s)\A(?:` + w.pattern.String() + `)\z`)
		for range 12 {
			text := ""
			for range r.Intn(9) {
				text += string("abc"[r.Intn(3)])
			}
			want := re.FindStringSubmatch(text)
			ok, l, e := mask.Match(m, text)
			if ok != (want != nil) || e != api.OK || ok && !slices.Equal(l, want[1:]) || !ok && len(l) != 0 {
				t.Fatalf("Match(%q, %q) is %v %q %d, not %q", m, text, ok, l, e, want)
			}
			if ok && w.groups > 0 {
				matches++
			}
		}
	}
	if matches < 10000 {
		t.Errorf("only %d matches with groups", matches)
	}
}

// D2: how long a text may be; P1: whichever mask it is, the call ends.
func TestMatchLong(t *testing.T) {
	for _, m := range []string{
		".*", "(.*)*b", "a*a*a*a*a*a*a*a*a*a*a*a*a*a*a*a*a*a*a*a*a*a*a*a*a*a*a*a*a*b",
		"(a|a)*b", "(a|aa|aaa|aaaa)*b", "((a+)+)+b", "(((((((((a)+)+)+)+)+)+)+)+)+b", "(((((((((a)))))))))*",
		"(a?a?a?a?a?a?a?a?a?a?a?a?a?a?a?a?a?a?a?a?a?a?a?a?a?a?a?a)+b", "(.*.*.*.*.*.*.*.*.*.*.*.*a)+(b)",
	} {
		_, f := mask.Check(m)
		for n, want := range map[int]api.Errno{1999: api.OK, 2000: api.OK, 2001: api.ErrMany, 3000000: api.ErrMany} {
			if f.Err != api.OK {
				want = f.Err
			}
			ok, l, e := mask.Match(m, strings.Repeat("a", n))
			if like := want == api.OK && !strings.Contains(m, "b"); ok != like || e != want || !ok && len(l) != 0 {
				t.Errorf("Match(%q) of %d bytes is %v %d", m, n, ok, e)
			}
		}
	}
	if ok, l, e := mask.Match("(a|b|ab)*(c)", strings.Repeat("ab", 999)+"ac"); !ok || !slices.Equal(l, []string{"a", "c"}) || e != api.OK {
		t.Errorf("it is %v %q %d", ok, l, e)
	}
}

// D4: a text of letters alone is like itself, and like nothing else of letters alone.
func TestMatchLetters(t *testing.T) {
	r := rand.New(rand.NewSource(3))
	letters := func() string {
		s := ""
		for range r.Intn(4) {
			s += string("abAB"[r.Intn(4)])
		}
		return s
	}
	for range 20000 {
		m, text := letters(), letters()
		if ok, l, e := mask.Match(m, text); ok != (m == text) || len(l) != 0 || e != api.OK {
			t.Fatalf("Match(%q, %q) is %v %q %d", m, text, ok, l, e)
		}
	}
	all := "abcdefghijklmnopqrstuvwxyzABCDEFGHIJKLMNOPQRSTUVWXYZ"
	if ok, _, e := mask.Match(all, all); !ok || e != api.OK {
		t.Errorf("all letters are not like themselves: %d", e)
	}
}

// P1: whatever is handed in is answered; P3: by the same, each time.
func TestMatchAnything(t *testing.T) {
	r := rand.New(rand.NewSource(4))
	for range 50000 {
		m, text := anyMask(r), anyMask(r)
		n, f := mask.Check(m)
		k, g := mask.Check(m)
		a, l1, e1 := mask.Match(m, text)
		b, l2, e2 := mask.Match(m, text)
		if n != k || f != g || a != b || e1 != e2 || !reflect.DeepEqual(l1, l2) {
			t.Fatalf("%q and %q: two answers", m, text)
		}
		if e1 != f.Err || !a && len(l1) != 0 || a && len(l1) != n {
			t.Fatalf("Match(%q, %q) is %v %q %d; Check is %d %v", m, text, a, l1, e1, n, f)
		}
	}
}

// P2: what the groups took is new memory.
func TestMatchIsNew(t *testing.T) {
	text := strings.Repeat("ab", 10)
	_, l, _ := mask.Match("(a.*)(b)", text)
	_, k, _ := mask.Match("(a.*)(b)", text)
	from := uintptr(unsafe.Pointer(unsafe.StringData(text)))
	for _, s := range l {
		if at := uintptr(unsafe.Pointer(unsafe.StringData(s))); at >= from && at < from+uintptr(len(text)) {
			t.Errorf("%q is a piece of the text", s)
		}
	}
	l[0], l[1] = "other", "other"
	if k[0] == "other" || k[1] == "other" {
		t.Error("two answers share memory")
	}
}
