package find_test

import (
	"cmp"
	"math/rand"
	"reflect"
	"regexp"
	"slices"
	"strings"
	"testing"
	"unsafe"

	"gleaner/api"
	"gleaner/find"
	"gleaner/labels"
)

// Lines by the expressions of the library.
const (
	blanks = `[ \t]*`
	aName  = `[a-zA-Z_][a-zA-Z_0-9]{0,39}`
	aValue = `"(?:[^"\\\n]|\\[\\"n])*"`
	aLabel = blanks + aName + blanks + `=` + blanks + aValue + blanks
)

var (
	right  = regexp.MustCompile(`^(?:` + aLabel + `(?:,` + aLabel + `)*(?:,` + blanks + `)?)$`)
	pair   = regexp.MustCompile(`(` + aName + `)` + blanks + `=` + blanks + `"((?:[^"\\\n]|\\[\\"n])*)"`)
	silent = regexp.MustCompile(`^[ \t]*(?:#.*)?$`)
	unsaid = strings.NewReplacer(`\\`, `\`, `\"`, `"`, `\n`, "\n")
)

// goesOn: may a line that begins so be a right one? What could come is tried.
func goesOn(begun string) bool {
	for _, rest := range []string{"", `a="x"`, `="x"`, `"x"`, `"`, `n"`} {
		if right.MatchString(begun + rest) {
			return true
		}
	}
	return false
}

// asRead: a line that tells something.
func asRead(s string) (api.Target, api.Fault) {
	if !right.MatchString(s) {
		n := 0
		for n < len(s) && goesOn(s[:n+1]) {
			n++
		}
		return api.Target{}, api.Fault{Err: api.ErrForm, At: n}
	}
	var l []api.Label
	for _, p := range pair.FindAllStringSubmatch(s, -1) {
		l = append(l, api.Label{Name: p[1], Value: unsaid.Replace(p[2])})
	}
	made, e := labels.Make(l)
	if e == api.OK && len(made) == 0 {
		e = api.ErrNone
	}
	return api.Target{Labels: made}, api.Fault{Err: e}
}

// asTold: a text, line by line.
func asTold(s string) ([]api.Target, api.Fault) {
	if len(s) > 20000 {
		return nil, api.Fault{Err: api.ErrMany}
	}
	var all []api.Target
	from := 0
	for _, x := range strings.Split(s, "\n") {
		if !silent.MatchString(x) {
			t, f := asRead(x)
			if f.Err == api.OK && slices.ContainsFunc(all, func(u api.Target) bool { return slices.Equal(u.Labels, t.Labels) }) {
				f.Err = api.ErrTwice
			}
			if f.Err == api.OK && len(all) == 100 {
				f.Err = api.ErrMany
			}
			if f.Err != api.OK {
				return nil, api.Fault{Err: f.Err, At: from + f.At}
			}
			all = append(all, t)
		}
		from += len(x) + 1
	}
	return all, api.Fault{}
}

func one(r *rand.Rand, of ...string) string { return of[r.Intn(len(of))] }

// anyLine that tells something, and is right most of the time.
func anyLine(r *rand.Rand) string {
	blank := func() string { return one(r, "", "", "", " ", "\t", " \t ") }
	s := blank()
	for range 1 + r.Intn(3) {
		s += one(r, "a", "b", "c", "B", "d1", "_", "e", "__name__", strings.Repeat("m", 39+r.Intn(3))) + blank() + "=" + blank() + `"`
		s += one(r, "", "x", "y", "1", `\\`, `\"`, `\n`, "{}", "#", "\xff", "a b", `\\\"`, strings.Repeat("v", 99+r.Intn(3))) + `"` + blank() + "," + blank()
	}
	if r.Intn(2) == 0 {
		s = strings.TrimRight(s, ", \t") + blank()
	}
	return s
}

// marred: a text with a few bytes that are others, or more, or gone.
func marred(r *rand.Rand, s string) string {
	const bytes = "ab1_ \t\n{}=,\"\\.-#n\x00\xff"
	b := []byte(s)
	for range 1 + r.Intn(2) {
		i, c := r.Intn(len(b)+1), bytes[r.Intn(len(bytes))]
		switch {
		case i == len(b) || r.Intn(3) == 0:
			b = slices.Insert(b, i, c)
		case r.Intn(2) == 0:
			b = slices.Delete(b, i, i+1)
		default:
			b[i] = c
		}
	}
	return string(b)
}

// anyText of some lines, now and then marred.
func anyText(r *rand.Rand) string {
	s := ""
	for range r.Intn(5) {
		switch r.Intn(5) {
		case 0:
			s += one(r, "", " ", "\t", "#", "# x", " # TYPE x")
		default:
			s += anyLine(r)
		}
		s += "\n"
	}
	if r.Intn(2) == 0 {
		s = strings.TrimSuffix(s, "\n")
	}
	if r.Intn(3) == 0 {
		s = marred(r, s)
	}
	return s
}

func hold(t *testing.T, s string) {
	t.Helper()
	l, f := find.Parse(s)
	if m, g := asTold(s); !same(l, m) || f != g {
		t.Fatalf("%q is\n%v %v, not\n%v %v", s, l, f, m, g)
	}
}

// G1: many texts, as they are to be read. P1: each is answered.
func TestAsItStands(t *testing.T) {
	r := rand.New(rand.NewSource(1))
	for range 30000 {
		hold(t, anyText(r))
	}
	for range 30000 {
		hold(t, marred(r, anyLine(r)))
	}
}

// G1: texts of any bytes of which lines are made.
func TestAnyBytes(t *testing.T) {
	const bytes = "aab1__  \t\n{}==,,\"\"\"\\\\n#\xff"
	r := rand.New(rand.NewSource(2))
	for range 50000 {
		b := []byte(one(r, "", "a", "a=", "a=\"", "a=\"x\"", "a=\"x\",", "a=\"x\"\n"))
		for range r.Intn(12) {
			b = append(b, bytes[r.Intn(len(bytes))])
		}
		hold(t, string(b))
	}
}

// some targets in any order, few of them and alike; now and then wrong ones, or one twice.
func some(r *rand.Rand) []api.Target {
	var l []api.Target
	for range r.Intn(7) {
		var t api.Target
		for _, name := range []string{"B", "__name__", "a", "b"} {
			if r.Intn(3) == 0 {
				t.Labels = append(t.Labels, api.Label{Name: name, Value: one(r, "{}", "x", "y")})
			}
		}
		if !slices.ContainsFunc(l, func(u api.Target) bool { return slices.Equal(u.Labels, t.Labels) }) || r.Intn(10) == 0 {
			l = append(l, t)
		}
	}
	if len(l) > 0 && r.Intn(10) == 0 {
		l[r.Intn(len(l))] = []api.Target{of("1", "x"), of("a", ""), of("a", strings.Repeat("v", 101)), of("a", "x", "a", "x"), of("b", "x", "a", "x")}[r.Intn(5)]
	}
	return l
}

// key of a target that no other one has, which rises as they do.
func key(t api.Target) string {
	s := ""
	for _, x := range t.Labels {
		s += x.Name + "\x00" + x.Value + "\x00"
	}
	return s
}

// asParted: what Diff must say of two lists that are right.
func asParted(old, now []api.Target) (gone, stay, came []api.Target) {
	was, is := map[string]api.Target{}, map[string]api.Target{}
	for _, t := range old {
		was[key(t)] = t
	}
	for _, t := range now {
		is[key(t)] = t
		if _, there := was[key(t)]; there {
			stay = append(stay, t)
		} else {
			came = append(came, t)
		}
	}
	for _, t := range old {
		if _, there := is[key(t)]; !there {
			gone = append(gone, t)
		}
	}
	for _, l := range [][]api.Target{gone, stay, came} {
		slices.SortFunc(l, func(a, b api.Target) int { return cmp.Compare(key(a), key(b)) })
	}
	return gone, stay, came
}

// wrongIn: the error of two lists.
func wrongIn(old, now []api.Target) api.Errno {
	for _, t := range slices.Concat(old, now) {
		if e := labels.Check(t.Labels); e != api.OK {
			return e
		}
	}
	for _, l := range [][]api.Target{old, now} {
		met := map[string]bool{}
		for _, t := range l {
			if met[key(t)] {
				return api.ErrTwice
			}
			met[key(t)] = true
		}
	}
	return api.OK
}

// G2 and G3: what stays and what is gone is all that there was, and what stays and what came all that there is; and each rises.
func TestAllThatThereIs(t *testing.T) {
	r := rand.New(rand.NewSource(3))
	for range 30000 {
		old, now := some(r), some(r)
		if want := wrongIn(old, now); want != api.OK {
			fails(t, old, now, want)
			continue
		}
		gone, stay, came := asParted(old, now)
		differ(t, old, now, gone, stay, came)
		g, s, c, _ := find.Diff(old, now)
		_, was, _ := asParted(old, old)
		_, is, _ := asParted(now, now)
		differ(t, slices.Concat(g, s), old, nil, was, nil)
		differ(t, slices.Concat(c, s), now, nil, is, nil)
		differ(t, now, old, c, s, g)
		for _, l := range [][]api.Target{g, s, c} {
			for i := 1; i < len(l); i++ {
				if n, e := labels.Compare(l[i-1].Labels, l[i].Labels); n != -1 || e != api.OK {
					t.Fatalf("%v, now %v: %v does not rise", old, now, l)
				}
			}
		}
	}
}

// P1: whatever is handed in is answered. P3: by the same, each time.
func TestAnything(t *testing.T) {
	r := rand.New(rand.NewSource(4))
	for range 10000 {
		b := make([]byte, r.Intn(60))
		r.Read(b)
		old, now := some(r), some(r)
		for _, s := range []string{string(b), anyText(r), "a=\"" + string(b), "a=\"x\"\n" + string(b)} {
			all := func() []any {
				l, f := find.Parse(s)
				if f.Err != api.OK && len(l) != 0 || f.Err == api.OK && f.At != 0 {
					t.Fatalf("%q is %v %v", s, l, f)
				}
				g, st, c, e := find.Diff(old, now)
				return []any{l, f, g, st, c, e}
			}
			if a, b := all(), all(); !reflect.DeepEqual(a, b) {
				t.Fatalf("%q: %v, and then %v", s, a, b)
			}
		}
	}
	for _, s := range []string{strings.Repeat(`b="",`, 4000), "b=\"" + strings.Repeat(`\\`, 9990), strings.Repeat("a=\"\"\n", 4000), "a" + strings.Repeat(" ", 19999), strings.Repeat(`"`, 20000)} {
		if l, f := find.Parse(s); len(l) != 0 || f.Err == api.OK {
			t.Errorf("%.20q, and so on: %v %v", s, l, f)
		}
	}
}

// P2: what is handed in is only read, the spare room behind it too.
func TestOnlyRead(t *testing.T) {
	fresh := func() []api.Target {
		l := list(of("c", "3"), of("a", "1", "b", "2"), of("b", "2"), of("z", "z"), of("y", "y"))
		l[1].Labels = l[1].Labels[:1]
		return l
	}
	l, m := fresh(), fresh()
	if _, _, _, e := find.Diff(l[:3], m[1:4]); e != api.OK {
		t.Fatalf("it is %d", e)
	}
	find.Diff(l[:4], nil)
	find.Diff(list(l[0], l[0]), m[:2])
	if !reflect.DeepEqual(l, fresh()) || !reflect.DeepEqual(m, fresh()) || l[1].Labels[:2][1] != m[1].Labels[:2][1] || l[1].Labels[:2][1].Name != "b" {
		t.Errorf("what was handed in became %v, %v", l, m)
	}
}

// lies: is a text a piece of another one?
func lies(s, in string) bool {
	at, from := uintptr(unsafe.Pointer(unsafe.StringData(s))), uintptr(unsafe.Pointer(unsafe.StringData(in)))
	return len(s) > 0 && at >= from && at < from+uintptr(len(in))
}

// P2: what Parse answers is new memory, the caller's; no two lists of it share memory.
func TestNewOfParse(t *testing.T) {
	s := "aa=\"cc\"\naa=\"cc\",bb=\"dd\"\n"
	l, _ := find.Parse(s)
	if len(l) != 2 {
		t.Fatalf("%q is %v", s, l)
	}
	for _, x := range l {
		for _, y := range x.Labels {
			if lies(y.Name, s) || lies(y.Value, s) {
				t.Errorf("a text of %q is not new", y)
			}
		}
	}
	l[0].Labels[0].Value = "other"
	_ = append(l[0].Labels, of("d", "d", "e", "e").Labels...)
	if !same(l[1:], list(of("aa", "cc", "bb", "dd"))) {
		t.Errorf("two lists share memory: %v", l)
	}
	told(t, s, of("aa", "cc"), of("aa", "cc", "bb", "dd"))
}

// P2: the same of Diff: neither list, nor any of what its targets have, is one that was handed in, or is there twice.
func TestNewOfDiff(t *testing.T) {
	old := list(of("aa", "11"), of("bb", "22"), of("cc", "33"), of("dd", "44"))
	now := list(of("bb", "22"), of("cc", "33"), of("ee", "55"), of("ff", "66"))
	g, s, c, _ := find.Diff(old, now)
	wantG, wantS, wantC := list(old[0], old[3]), list(old[1], old[2]), list(now[2], now[3])
	for _, l := range [][]api.Target{g, s, c} {
		_ = append(l, of("other", "other"), of("other", "other"), of("other", "other"))
		for _, x := range l {
			_ = append(x.Labels, of("other", "other", "other", "other").Labels...)
		}
	}
	if !same(g, wantG) || !same(s, wantS) || !same(c, wantC) {
		t.Errorf("two lists share memory: %v %v %v", g, s, c)
	}
	all := slices.Concat(g, s, c)
	for i, x := range all {
		for _, y := range slices.Concat(old, now) {
			if lies(x.Labels[0].Name, y.Labels[0].Name) || lies(x.Labels[0].Value, y.Labels[0].Value) {
				t.Errorf("a text of %v is not new", x)
			}
		}
		x.Labels[0].Value = "other"
		for _, y := range all[i+1:] {
			if y.Labels[0].Value == "other" {
				t.Errorf("two lists share memory: %v", all)
			}
		}
	}
	differ(t, old, now, wantG, wantS, wantC)
}
