package expo_test

import (
	"math/rand"
	"reflect"
	"regexp"
	"slices"
	"strconv"
	"strings"
	"testing"
	"unsafe"

	"gleaner/api"
	"gleaner/expo"
	"gleaner/labels"
)

// Lines by the expressions of the library: what stands ahead of the number; a number's, or time's, word; and all of a line, if the number and the time are short.
const (
	blanks = `[ \t]*`
	aName  = `[a-zA-Z_][a-zA-Z_0-9]{0,39}`
	aValue = `"(?:[^"\\\n]|\\[\\"n])*"`
	aLabel = blanks + aName + blanks + `=` + blanks + aValue + blanks
	list   = `(?:` + blanks + `|` + aLabel + `(?:,` + aLabel + `)*(?:,` + blanks + `)?)`
	ahead  = `^` + blanks + `(` + aName + `)(?:` + blanks + `\{(` + list + `)\}` + blanks + `|[ \t]+)`
)

var (
	aheadOf = regexp.MustCompile(ahead)
	right   = regexp.MustCompile(ahead + `1` + blanks + `$`)
	pair    = regexp.MustCompile(`(` + aName + `)` + blanks + `=` + blanks + `"((?:[^"\\\n]|\\[\\"n])*)"`)
	word    = regexp.MustCompile(`^[^ \t]*`)
	aTime   = regexp.MustCompile(`^-?[0-9]{1,16}$`)
	aType   = regexp.MustCompile(`^[ \t]*#[ \t]*TYPE[ \t]+(` + aName + `)[ \t]+(?:counter|gauge|histogram|summary|untyped)[ \t]*$`)
	ofType  = regexp.MustCompile(`^[ \t]*#[ \t]*TYPE[ \t]`)
	silent  = regexp.MustCompile(`^[ \t]*(?:#.*)?$`)
	unsaid  = strings.NewReplacer(`\\`, `\`, `\"`, `"`, `\n`, "\n")
)

// goesOn: may a line that begins so be a right one, ahead of its number? What could come is tried.
func goesOn(begun string) bool {
	for _, rest := range []string{"1", " 1", "a 1", "}1", `="x"}1`, `"x"}1`, `"}1`, `n"}1`} {
		if right.MatchString(begun + rest) {
			return true
		}
	}
	return false
}

// asRead: a line that tells something as F2 and F3 have it, but for what comes at its first byte.
func asRead(s string) (api.Reading, string, []api.Label, api.Fault) {
	form := func(at int) (api.Reading, string, []api.Label, api.Fault) {
		return api.Reading{}, "", nil, api.Fault{Err: api.ErrForm, At: at}
	}
	m := aheadOf.FindStringSubmatchIndex(s)
	if m == nil || m[4] < 0 && m[1] < len(s) && s[m[1]] == '{' {
		n := 0
		for n < len(s) && goesOn(s[:n+1]) {
			n++
		}
		return form(n)
	}
	name := s[m[2]:m[3]]
	l := of("__name__", name)
	if m[4] >= 0 {
		for _, p := range pair.FindAllStringSubmatch(s[m[4]:m[5]], -1) {
			l = append(l, api.Label{Name: p[1], Value: unsaid.Replace(p[2])})
		}
	}
	at := m[1]
	n := word.FindString(s[at:])
	bits, e := expo.Float(n)
	if e != api.OK {
		return api.Reading{}, "", nil, api.Fault{Err: e, At: at}
	}
	r := api.Reading{Bits: bits}
	at += len(n)
	at += len(s[at:]) - len(strings.TrimLeft(s[at:], " \t"))
	if at < len(s) {
		n = word.FindString(s[at:])
		if !aTime.MatchString(n) {
			return form(at)
		}
		r.Timed = true
		r.Time, _ = strconv.Atoi(n)
		if r.Time < -api.MaxTime || r.Time > api.MaxTime {
			return api.Reading{}, "", nil, api.Fault{Err: api.ErrRange, At: at}
		}
		at += len(n)
		at += len(s[at:]) - len(strings.TrimLeft(s[at:], " \t"))
		if at < len(s) {
			return form(at)
		}
	}
	return r, name, l, api.Fault{}
}

// asTold: a text, line by line.
func asTold(s string) ([]api.Reading, api.Fault) {
	if len(s) > 20000 {
		return nil, api.Fault{Err: api.ErrMany}
	}
	var all []api.Reading
	var read, typed []string
	from := 0
	for _, x := range strings.Split(s, "\n") {
		e := api.OK
		if m := aType.FindStringSubmatch(x); m != nil {
			if slices.Contains(read, m[1]) {
				e = api.ErrState
			}
			if slices.Contains(typed, m[1]) {
				e = api.ErrTwice
			}
			typed = append(typed, m[1])
		} else if ofType.MatchString(x) {
			e = api.ErrForm
		} else if !silent.MatchString(x) {
			r, name, l, f := asRead(x)
			if f.Err != api.OK {
				return nil, api.Fault{Err: f.Err, At: from + f.At}
			}
			r.Labels, e = labels.Make(l)
			if e == api.OK && len(all) == 300 {
				e = api.ErrMany
			}
			all, read = append(all, r), append(read, name)
		}
		if e != api.OK {
			return nil, api.Fault{Err: e, At: from}
		}
		from += len(x) + 1
	}
	return all, api.Fault{}
}

func one(r *rand.Rand, of ...string) string { return of[r.Intn(len(of))] }

// anyLine that tells something, and is right most of the time.
func anyLine(r *rand.Rand) string {
	blank := func() string { return one(r, "", "", "", " ", "\t", " \t ") }
	s := blank() + one(r, "a", "b", "ab_1", "_", "__name__", strings.Repeat("n", 39+r.Intn(3)))
	if r.Intn(2) == 0 {
		s += blank() + "{" + blank()
		for range r.Intn(4) {
			s += one(r, "a", "b", "c", "B", "d1", "_", "e", "f", strings.Repeat("m", 39+r.Intn(3))) + blank() + "=" + blank() + `"`
			s += one(r, "", "x", `\\`, `\"`, `\n`, "{}", "#", "\xff", "a b", `\\\"`, strings.Repeat("v", 99+r.Intn(3))) + `"` + blank() + "," + blank()
		}
		if r.Intn(2) == 0 {
			s = strings.TrimRight(s, ", \t")
		}
		s += "}" + blank()
	} else {
		s += one(r, " ", "\t", "  ")
	}
	s += one(r, "1", "0", "-1.5", "NaN", "+Inf", "1e3", ".5", strings.Repeat("1", 99+r.Intn(3)))
	if r.Intn(2) == 0 {
		s += one(r, " ", "\t ") + one(r, "", "0", "5", "-5", "9007199254740991", "-9007199254740992", "1234567890123456", "12345678901234567")
	}
	return s + blank()
}

// anyRemark, which tells a type, or nothing.
func anyRemark(r *rand.Rand) string {
	return one(r, "", " ") + "#" + one(r, "", " ", "\t") + one(r, "TYPE", "TYPE", "HELP", "TYPES") + one(r, " ", "\t ", "") + one(r, "a", "b", "c", "1", "__name__") + one(r, " ", "  ", "") + one(r, kinds...) + one(r, "", "", " ", "x")
}

// marred: a text with a few bytes that are others, or more, or gone.
func marred(r *rand.Rand, s string) string {
	const bytes = "ab1_ \t\n{}=,\"\\.-+eN#\x00\xff"
	b := []byte(s)
	for range 1 + r.Intn(2) {
		i, c := r.Intn(len(b)+1), bytes[r.Intn(len(bytes))]
		switch {
		case i == len(b) || r.Intn(3) == 0:
			b = slices.Insert(b, i, c)
		case r.Intn(2) == 0:
			b = slices.Delete(b, i, i+1)
		default:
			b[i] = c
		}
	}
	return string(b)
}

// anyText of some lines, now and then marred.
func anyText(r *rand.Rand) string {
	s := ""
	for range r.Intn(5) {
		switch r.Intn(6) {
		case 0:
			s += anyRemark(r)
		case 1:
			s += one(r, "", " ", "\t", "#", "# x")
		default:
			s += anyLine(r)
		}
		s += "\n"
	}
	if r.Intn(2) == 0 {
		s = strings.TrimSuffix(s, "\n")
	}
	if r.Intn(3) == 0 {
		s = marred(r, s)
	}
	return s
}

func hold(t *testing.T, s string) {
	t.Helper()
	l, f := expo.Parse(s)
	if m, g := asTold(s); !same(l, m) || f != g {
		t.Fatalf("%q is\n%v %v, not\n%v %v", s, l, f, m, g)
	}
}

// F2 to F4: many texts, as they are to be read. P1: each is answered.
func TestAsItStands(t *testing.T) {
	r := rand.New(rand.NewSource(1))
	for range 30000 {
		hold(t, anyText(r))
	}
	for range 30000 {
		hold(t, marred(r, anyLine(r)))
	}
	for range 5000 {
		hold(t, marred(r, anyRemark(r)+"\na 1\n"+anyRemark(r)))
	}
}

// F2 to F4: texts of any bytes of which lines are made.
func TestAnyBytes(t *testing.T) {
	const bytes = "aab1__  \t\n{}{}==,,\"\"\\\\n.-1#\xff"
	r := rand.New(rand.NewSource(2))
	for range 50000 {
		b := []byte(one(r, "", "a", "a{", "a{b=\"", "a{b=\"x\",", "a 1", "# TYPE a "))
		for range r.Intn(12) {
			b = append(b, bytes[r.Intn(len(bytes))])
		}
		hold(t, string(b))
	}
}

// F5: lines that tell nothing change nothing.
func TestSilentLines(t *testing.T) {
	r := rand.New(rand.NewSource(3))
	for range 5000 {
		s := anyText(r)
		lines := strings.Split(s, "\n")
		var more []string
		for _, x := range lines {
			for range r.Intn(3) {
				more = append(more, one(r, "", " ", "\t\t", "#", " # x", "#TYPE", "# TYPES a gauge", "# {=\""))
			}
			more = append(more, x)
		}
		l, f := expo.Parse(s)
		m, g := expo.Parse(strings.Join(more, "\n"))
		if !same(l, m) || f.Err != g.Err {
			t.Fatalf("%q: %v %v, but with lines that tell nothing %v %v", s, l, f, m, g)
		}
	}
}

// F5: two texts, one behind the other, tell what both do, as long as no types are told.
func TestOneBehindTheOther(t *testing.T) {
	r := rand.New(rand.NewSource(4))
	text := func() string {
		s := ""
		for range r.Intn(200) {
			s += one(r, "a 1\n", "b{c=\"d\"} 2 5\n", "# x\n", "\n", "c{}3\n", "a{a=\"\\n\"}4\t-6 \n")
		}
		return s
	}
	for range 2000 {
		a, b := text(), text()+one(r, "", "a 5", "x")
		l, f := expo.Parse(a)
		m, g := expo.Parse(b)
		both, h := expo.Parse(a + b)
		if f.Err != api.OK {
			t.Fatalf("%q: %v", a, f)
		}
		want := slices.Concat(l, m)
		if g.Err != api.OK {
			want, g.At = nil, g.At+len(a)
		}
		if len(l)+strings.Count(b, "\n") >= 300 {
			continue // there may be too many of them together
		}
		if !same(both, want) || h != g {
			t.Fatalf("%q, and %q: %v %v, not %v %v", a, b, both, h, want, g)
		}
	}
}

// P1: whatever is handed in is answered. P3: by the same, each time.
func TestAnything(t *testing.T) {
	r := rand.New(rand.NewSource(5))
	for range 20000 {
		b := make([]byte, r.Intn(60))
		r.Read(b)
		for _, s := range []string{string(b), anyText(r), "a{b=\"" + string(b), "a " + string(b), "# TYPE a" + string(b)} {
			all := func() []any {
				l, f := expo.Parse(s)
				n, e := expo.Float(s)
				if f.Err != api.OK && len(l) != 0 || f.Err == api.OK && f.At != 0 || e != api.OK && n != 0 {
					t.Fatalf("%q is %v %v, and %d %d", s, l, f, n, e)
				}
				return []any{l, f, n, e}
			}
			if a, b := all(), all(); !reflect.DeepEqual(a, b) {
				t.Fatalf("%q: %v, and then %v", s, a, b)
			}
		}
	}
	for _, s := range []string{strings.Repeat("a{", 10000), "a{" + strings.Repeat(`b="",`, 3900), "a{b=\"" + strings.Repeat(`\\`, 9990), strings.Repeat("# TYPE a\n", 2000), "a" + strings.Repeat(" ", 19999), strings.Repeat("9", 20000), "a 1 " + strings.Repeat("9", 19000)} {
		if l, f := expo.Parse(s); len(l) != 0 || f.Err == api.OK {
			t.Errorf("%.20q, and so on: %v %v", s, l, f)
		}
	}
}

// lies: is a text a piece of another one?
func lies(s, in string) bool {
	at, from := uintptr(unsafe.Pointer(unsafe.StringData(s))), uintptr(unsafe.Pointer(unsafe.StringData(in)))
	return len(s) > 0 && at >= from && at < from+uintptr(len(in))
}

// P2: an answer is new memory, the caller's; no two lists of it share memory.
func TestNew(t *testing.T) {
	s := "aa{bb=\"cc\"}1\naa{bb=\"cc\"}1\naa 2 5\n"
	l, f := expo.Parse(s)
	if len(l) != 3 || f != (api.Fault{}) {
		t.Fatalf("%q is %v %v", s, l, f)
	}
	for _, x := range l {
		for _, y := range x.Labels {
			if lies(y.Name, s) || lies(y.Value, s) {
				t.Errorf("a text of %q is not new", y)
			}
		}
	}
	l[0].Labels[0].Value, l[0].Labels[1].Name = "other", "other"
	_ = append(l[1].Labels, of("d", "d", "e", "e")...)
	if want := []api.Reading{untimed(1, "__name__", "aa", "bb", "cc"), at(5, 2, "__name__", "aa")}; !same(l[1:], want) {
		t.Errorf("two lists share memory: %v", l)
	}
	if again, _ := expo.Parse(s); !same(again[1:], l[1:]) || again[0].Labels[0].Value != "aa" {
		t.Errorf("a change of an answer is seen in a later one: %v", again)
	}
}
