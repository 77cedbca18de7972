package mask_test

import (
	"math/rand"
	"strings"
	"testing"

	"gleaner/api"
	"gleaner/mask"
)

// D1: masks, and how many groups they have.
func TestCheck(t *testing.T) {
	for m, want := range map[string]int{
		"":                                    0,
		"abc":                                 0,
		"|":                                   0,
		"||":                                  0,
		"a|":                                  0,
		"|a":                                  0,
		"()":                                  1,
		"(|)":                                 1,
		"(a)":                                 1,
		"((a)(b))|(c)":                        4,
		"(((((((((a)))))))))":                 9,
		strings.Repeat("(a)", 9):              9,
		"(a*)?":                               1,
		"(a*|b)?":                             1,
		"((a*)b)*":                            2,
		"((a*)?b)+":                           2,
		"(a|b)*":                              1,
		"(a+)+":                               1,
		"(a+b?)*":                             1,
		"([^a]b*)+":                           1,
		"a*b+c?":                              0,
		".*.+.?":                              0,
		"[a]*[a]+[a]?":                        0,
		`\**\++\?`:                            0,
		`\\\.\|\(\)\[\]\^\$\-\_\ `:            0,
		"\\\x00\\\n\\\xff\\\x80":              0,
		"^a$":                                 0,
		"a{1}":                                0,
		"a-b,c:d=e/f\"g'h":                    0,
		"\x00\n\xff":                          0,
		"[a]":                                 0,
		"[^a]":                                0,
		"[abc]":                               0,
		"[a-a]":                               0,
		"[a-b]":                               0,
		"[a-bc-d]":                            0,
		"[^a-bcd-ef]":                         0,
		"[.*+?()|$]":                          0,
		"[A-z]":                               0,
		"[\x00-\xff]":                         0,
		"[^\x00-\xff]*":                       0,
		"([^\x00-\xff])*":                     1,
		"[\n- ]":                              0,
		strings.Repeat("a", 60):               0,
		strings.Repeat("|", 60):               0,
		strings.Repeat("(", 9) + ")))))))))?": 9,
	} {
		if n, f := mask.Check(m); n != want || f != (api.Fault{}) {
			t.Errorf("Check(%q) is %d %v, not %d", m, n, f, want)
		}
		if _, l, e := mask.Match(m, "none of these texts"); e != api.OK || len(l) != 0 && len(l) != want {
			t.Errorf("Match of %q is %q %d", m, l, e)
		}
	}
}

// D1: faults; what is met first, and of what is met at one byte what is named first (P1).
var faults = []struct {
	m  string
	e  api.Errno
	at int
}{
	{strings.Repeat("a", 61), api.ErrMany, 0},
	{strings.Repeat("*", 61), api.ErrMany, 0},
	{strings.Repeat("(", 1000), api.ErrMany, 0},
	{"*", api.ErrForm, 0},
	{"+", api.ErrForm, 0},
	{"?", api.ErrForm, 0},
	{")", api.ErrForm, 0},
	{"]", api.ErrForm, 0},
	{"ab]", api.ErrForm, 2},
	{"a)", api.ErrForm, 1},
	{"(a))", api.ErrForm, 3},
	{"a|*", api.ErrForm, 2},
	{"(*a)", api.ErrForm, 1},
	{"(|+)", api.ErrForm, 2},
	{"a**", api.ErrForm, 2},
	{"a*+", api.ErrForm, 2},
	{"a+?", api.ErrForm, 2},
	{"a?*", api.ErrForm, 2},
	{"a??", api.ErrForm, 2},
	{"(a*)?*", api.ErrForm, 5},
	{"(", api.ErrForm, 1},
	{"(a", api.ErrForm, 2},
	{"(a|", api.ErrForm, 3},
	{"((a)", api.ErrForm, 4},
	{"(]", api.ErrForm, 1},
	{`\`, api.ErrForm, 1},
	{`ab\`, api.ErrForm, 3},
	{`\a`, api.ErrForm, 1},
	{`\Z`, api.ErrForm, 1},
	{`\0`, api.ErrForm, 1},
	{`a\9`, api.ErrForm, 2},
	{"[", api.ErrForm, 1},
	{"[^", api.ErrForm, 2},
	{"[]", api.ErrForm, 1},
	{"[]a]", api.ErrForm, 1},
	{"[^]", api.ErrForm, 2},
	{"[^^]", api.ErrForm, 2},
	{"[a^]", api.ErrForm, 2},
	{"[-a]", api.ErrForm, 1},
	{"[^-a]", api.ErrForm, 2},
	{"[[]", api.ErrForm, 1},
	{"[a[]", api.ErrForm, 2},
	{`[\]`, api.ErrForm, 1},
	{`[a\]]`, api.ErrForm, 2},
	{"[a", api.ErrForm, 2},
	{"[a-", api.ErrForm, 3},
	{"[a-]", api.ErrForm, 3},
	{"[a-[]", api.ErrForm, 3},
	{"[a-^]", api.ErrForm, 3},
	{`[a-\]`, api.ErrForm, 3},
	{"[a--]", api.ErrForm, 3},
	{"[+--]", api.ErrForm, 3},
	{"[a-b", api.ErrForm, 4},
	{"[a-b-c]", api.ErrForm, 4},
	{"[b-a]", api.ErrRange, 3},
	{"[b-a", api.ErrRange, 3},
	{"[^b-a]", api.ErrRange, 4},
	{"[a-bd-c]", api.ErrRange, 6},
	{"[\xff-\x00]", api.ErrRange, 3},
	{"[z-^]", api.ErrForm, 3},
	{"[z--]", api.ErrForm, 3},
	{strings.Repeat("(", 10), api.ErrMany, 9},
	{strings.Repeat("()", 10), api.ErrMany, 18},
	{strings.Repeat("(a)", 10), api.ErrMany, 27},
	{strings.Repeat("(a)|", 10), api.ErrMany, 36},
	{strings.Repeat("(", 9) + "*", api.ErrForm, 9},
	{strings.Repeat("()", 9) + ")(", api.ErrForm, 18},
	{strings.Repeat("()", 9) + "()*", api.ErrMany, 18},
	{"()*", api.ErrState, 2},
	{"()+", api.ErrState, 2},
	{"(|)*", api.ErrState, 3},
	{"(a*)*", api.ErrState, 4},
	{"(a*)+", api.ErrState, 4},
	{"(a?)*", api.ErrState, 4},
	{"(a*b?)+", api.ErrState, 6},
	{"(a|)*", api.ErrState, 4},
	{"(|a)+", api.ErrState, 4},
	{"(a|b*|c)*", api.ErrState, 8},
	{"((a*))*", api.ErrState, 6},
	{"((a)?)*", api.ErrState, 6},
	{"(()())+", api.ErrState, 6},
	{"((a*)*b)", api.ErrState, 5},
	{"()*(", api.ErrState, 2},
	{"()**", api.ErrState, 2},
	{"a)()*", api.ErrForm, 1},
	{"[b-a]()*", api.ErrRange, 3},
	{"(a*)+]", api.ErrState, 4},
}

func TestCheckFaults(t *testing.T) {
	for _, c := range faults {
		if n, f := mask.Check(c.m); n != 0 || f != (api.Fault{Err: c.e, At: c.at}) {
			t.Errorf("Check(%.70q) is %d %v, not %v", c.m, n, f, api.Fault{Err: c.e, At: c.at})
		}
	}
}

// D2: Match tells the errors of Check, ahead of its own.
func TestMatchFaults(t *testing.T) {
	for _, c := range faults {
		for _, text := range []string{"", "a", c.m, strings.Repeat("a", 2001)} {
			if ok, l, e := mask.Match(c.m, text); ok || len(l) != 0 || e != c.e {
				t.Errorf("Match(%.70q) is %v %q %d, not %d", c.m, ok, l, e, c.e)
			}
		}
	}
}

// D1: each byte by itself, behind a `\`, and between brackets.
func TestCheckBytes(t *testing.T) {
	check := func(m string, right bool, at int) {
		t.Helper()
		want := api.Fault{}
		if !right {
			want = api.Fault{Err: api.ErrForm, At: at}
		}
		if n, f := mask.Check(m); n != 0 || f != want {
			t.Errorf("Check(%q) is %d %v, not %v", m, n, f, want)
		}
	}
	for i := range 256 {
		c := string([]byte{byte(i)})
		b := c[0]
		letter := b >= 'a' && b <= 'z' || b >= 'A' && b <= 'Z' || b >= '0' && b <= '9'
		if c != "(" && c != "[" && c != `\` {
			check(c, !strings.Contains("*+?)]", c), 0)
		}
		check(`\`+c, !letter, 1)
		among := !strings.Contains(`[]\^-`, c)
		if c != "^" {
			check("["+c+"]", among, 1)
			check("["+c+"-\xff]", among, 1)
		}
		check("[^"+c+"]", among, 2)
		if c != "]" && c != "-" {
			check("[a"+c+"]", among, 2)
		}
		check("[\x00-"+c+"]", among, 3)
	}
}

// anyMask: bytes that make masks, now and then.
func anyMask(r *rand.Rand) string {
	b := make([]byte, r.Intn(14))
	for i := range b {
		b[i] = `ab.*+?()[]|\^-(()`[r.Intn(17)]
	}
	return string(b)
}

// D1: a mask goes on up to the byte at which the fault is, and whatever stands behind that byte changes nothing.
func TestFaultIsTheFirst(t *testing.T) {
	r := rand.New(rand.NewSource(1))
	right := 0
	for range 100000 {
		m := anyMask(r)
		_, f := mask.Check(m)
		if f.Err == api.OK {
			right++
			continue
		}
		if f.At < 0 || f.At > len(m) {
			t.Fatalf("%q: %v", m, f)
		}
		for k := range f.At {
			if _, g := mask.Check(m[:k]); g != (api.Fault{}) && g != (api.Fault{Err: api.ErrForm, At: k}) {
				t.Fatalf("%q: %v, but %q: %v", m, f, m[:k], g)
			}
		}
		if f.At == len(m) {
			continue
		}
		if _, g := mask.Check(m[:f.At+1] + anyMask(r)); g != f {
			t.Fatalf("%q: %v, but with another end %v", m, f, g)
		}
	}
	if right < 5000 {
		t.Errorf("only %d masks of these are right", right)
	}
}
