package labels_test

import (
	"strings"
	"testing"

	"gleaner/api"
	"gleaner/labels"
)

// of some names and values, one behind the other.
func of(namesAndValues ...string) []api.Label {
	var l []api.Label
	for i := 0; i < len(namesAndValues); i += 2 {
		l = append(l, api.Label{Name: namesAndValues[i], Value: namesAndValues[i+1]})
	}
	return l
}

// many labels, whose names rise.
func many(n int) []api.Label {
	var l []api.Label
	for i := range n {
		l = append(l, api.Label{Name: "n" + string([]byte{byte('a' + i/26), byte('a' + i%26)}), Value: "v"})
	}
	return l
}

// C1: each byte, alone, and behind one that is right.
func TestIsNameBytes(t *testing.T) {
	for c := range 256 {
		b := byte(c)
		letter := b == '_' || b >= 'a' && b <= 'z' || b >= 'A' && b <= 'Z'
		digit := b >= '0' && b <= '9'
		if got := labels.IsName(string([]byte{b})); got != letter {
			t.Errorf("%q alone: %v", b, got)
		}
		for _, s := range []string{string([]byte{'a', b}), string([]byte{'_', b, 'Z'}), string([]byte{'x', '9', b})} {
			if got := labels.IsName(s); got != (letter || digit) {
				t.Errorf("%q: %v", s, got)
			}
		}
	}
}

func TestIsName(t *testing.T) {
	for s, want := range map[string]bool{
		"":                        false,
		"__name__":                true,
		"job":                     true,
		"a1":                      true,
		"1a":                      false,
		"a b":                     false,
		" a":                      false,
		"a-b":                     false,
		"a:b":                     false,
		"é":                       false,
		"aé":                      false,
		strings.Repeat("n", 40):   true,
		strings.Repeat("n", 41):   false,
		strings.Repeat("n", 4000): false,
	} {
		if got := labels.IsName(s); got != want {
			t.Errorf("IsName(%q) is %v", s, got)
		}
	}
}

// C1: what is right, and what is wrong; what is named first, of several errors (P1).
var checked = []struct {
	what string
	l    []api.Label
	want api.Errno
}{
	{"none", nil, api.OK},
	{"an empty list", []api.Label{}, api.OK},
	{"one", of("a", "x"), api.OK},
	{"some that rise", of("A", "1", "_", "2", "a", "3", "a0", "4", "b", "5"), api.OK},
	{"any bytes as a value", of("a", "\x00\xff\"\\\n"), api.OK},
	{"as many as may be", many(20), api.OK},
	{"the longest name and value", of(strings.Repeat("n", 40), strings.Repeat("v", 100)), api.OK},
	{"one too many", many(21), api.ErrMany},
	{"far too many", many(600), api.ErrMany},
	{"too many, and no name", append(of("1", "x"), many(20)...), api.ErrMany},
	{"too many, of one name", append(of("naa", "x"), many(20)...), api.ErrMany},
	{"no name", of("", "x"), api.ErrForm},
	{"a name that begins with a digit", of("1a", "x"), api.ErrForm},
	{"too long a name", of(strings.Repeat("n", 41), "x"), api.ErrForm},
	{"the last one has no name", of("a", "x", "b", "y", "c-", "z"), api.ErrForm},
	{"no value", of("a", ""), api.ErrForm},
	{"too long a value", of("a", strings.Repeat("v", 101)), api.ErrMany},
	{"no name, and too long a value", of("", strings.Repeat("v", 101)), api.ErrForm},
	{"too long a value ahead of no name", of("a", strings.Repeat("v", 101), "", "x"), api.ErrMany},
	{"no name ahead of too long a value", of("", "x", "a", strings.Repeat("v", 101)), api.ErrForm},
	{"no value ahead of too long a value", of("a", "", "b", strings.Repeat("v", 101)), api.ErrForm},
	{"too long a value ahead of no value", of("a", strings.Repeat("v", 101), "b", ""), api.ErrMany},
	{"one name twice", of("a", "x", "a", "y"), api.ErrTwice},
	{"one name and value twice", of("a", "x", "a", "x"), api.ErrTwice},
	{"one name twice, others between", of("a", "x", "b", "y", "c", "z", "a", "x"), api.ErrTwice},
	{"one name twice at the end, behind what does not rise", of("b", "x", "a", "y", "c", "z", "c", "z"), api.ErrTwice},
	{"no value behind one name twice", of("a", "x", "a", "y", "b", ""), api.ErrForm},
	{"too long a value behind what does not rise", of("b", "x", "a", strings.Repeat("v", 101)), api.ErrMany},
	{"not rising", of("b", "x", "a", "y"), api.ErrState},
	{"not rising at the end", of("a", "x", "c", "y", "b", "z"), api.ErrState},
	{"not rising: a letter behind its small one", of("a", "x", "B", "y"), api.ErrState},
	{"not rising: what another begins with behind it", of("ab", "x", "a", "y"), api.ErrState},
}

func TestCheck(t *testing.T) {
	for _, c := range checked {
		if e := labels.Check(c.l); e != c.want {
			t.Errorf("%s: it is %d, not %d", c.what, e, c.want)
		}
	}
}

// C1: all others tell what Check says ahead of anything else, and answer nothing then (P1).
func TestAllCheck(t *testing.T) {
	long := strings.Repeat("v", 101)
	for _, c := range checked {
		if c.want == api.OK {
			continue
		}
		for _, name := range []string{"a", "", "1", "zz"} {
			if v, e := labels.Get(c.l, name); v != "" || e != c.want {
				t.Errorf("%s: Get is %q %d", c.what, v, e)
			}
			for _, value := range []string{"", "x", long} {
				if m, e := labels.With(c.l, name, value); len(m) != 0 || e != c.want {
					t.Errorf("%s: With is %v %d", c.what, m, e)
				}
			}
		}
		if s, e := labels.Text(c.l); s != "" || e != c.want {
			t.Errorf("%s: Text is %q %d", c.what, s, e)
		}
		if n, e := labels.Sum(c.l); n != 0 || e != c.want {
			t.Errorf("%s: Sum is %d %d", c.what, n, e)
		}
		for _, d := range checked {
			want := d.want
			if want == api.OK {
				want = c.want
			}
			if n, e := labels.Compare(d.l, c.l); n != 0 || e != want {
				t.Errorf("%s, then %s: Compare is %d %d, not %d", d.what, c.what, n, e, want)
			}
			if n, e := labels.Compare(c.l, d.l); n != 0 || e != c.want {
				t.Errorf("%s, then %s: Compare is %d %d, not %d", c.what, d.what, n, e, c.want)
			}
		}
	}
}
