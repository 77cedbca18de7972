package relabel_test

import (
	"hash/fnv"
	"strconv"
	"strings"
	"testing"

	"gleaner/api"
	"gleaner/relabel"
)

// of some names and values, one behind the other.
func of(namesAndValues ...string) []api.Label {
	var l []api.Label
	for i := 0; i < len(namesAndValues); i += 2 {
		l = append(l, api.Label{Name: namesAndValues[i], Value: namesAndValues[i+1]})
	}
	return l
}

// many labels, whose names are na to nt.
func many(n int, value string) []api.Label {
	var l []api.Label
	for i := range n {
		l = append(l, api.Label{Name: "n" + string(rune('a'+i)), Value: value})
	}
	return l
}

// same labels: an empty list may be nil or not.
func same(a, b []api.Label) bool {
	if len(a) != len(b) {
		return false
	}
	for i := range a {
		if a[i] != b[i] {
			return false
		}
	}
	return true
}

// applied: what comes must be these labels.
func applied(t *testing.T, l []api.Label, want []api.Label, rules ...api.Rule) {
	t.Helper()
	if m, stay, e := relabel.Apply(l, rules); !same(m, want) || !stay || e != api.OK {
		t.Errorf("%q by %+v: it is %q %v %d, not %q", l, rules, m, stay, e, want)
	}
}

// dropped: all must be.
func dropped(t *testing.T, l []api.Label, rules ...api.Rule) {
	t.Helper()
	if m, stay, e := relabel.Apply(l, rules); len(m) != 0 || stay || e != api.OK {
		t.Errorf("%q by %+v: it is %q %v %d, but all is dropped", l, rules, m, stay, e)
	}
}

// refused: this must be the error.
func refused(t *testing.T, want api.Errno, l []api.Label, rules ...api.Rule) {
	t.Helper()
	if m, stay, e := relabel.Apply(l, rules); len(m) != 0 || stay || e != want {
		t.Errorf("%q by %+v: it is %q %v %d, not %d", l, rules, m, stay, e, want)
	}
}

// share of a Source, by the sum of the library.
func share(source string, modulus int) string {
	h := fnv.New64a()
	h.Write([]byte("x\xff" + source + "\xff"))
	return strconv.FormatUint(h.Sum64()%uint64(modulus), 10)
}

var some = of("__name__", "up", "a", "x1", "b", "y")

// E2: no rules, and no labels.
func TestNothing(t *testing.T) {
	applied(t, some, some)
	applied(t, nil, nil)
	applied(t, many(20, bytes(100)), many(20, bytes(100)))
	applied(t, nil, of("a", "z"), api.Rule{Kind: api.RuleReplace, Target: "a", Replacement: "z"})
	applied(t, nil, of("a", "0"), api.Rule{Kind: api.RuleShare, Target: "a", Modulus: 5})
	applied(t, nil, nil, api.Rule{Kind: api.RuleMap, Mask: ".*", Replacement: "a"}, api.Rule{Kind: api.RuleLose, Mask: ".*"}, api.Rule{Kind: api.RuleHold})
}

// E2: RuleReplace.
func TestReplace(t *testing.T) {
	for _, c := range []struct {
		r    api.Rule
		want []api.Label
	}{
		{api.Rule{Sources: []string{"a"}, Mask: "x(.)", Replacement: "y$1", Target: "b"}, of("__name__", "up", "a", "x1", "b", "y1")},
		{api.Rule{Sources: []string{"a"}, Mask: "x(.)", Replacement: "y$1", Target: "aa"}, of("__name__", "up", "a", "x1", "aa", "y1", "b", "y")},
		{api.Rule{Sources: []string{"a"}, Mask: "x", Replacement: "y", Target: "c"}, some},
		{api.Rule{Sources: []string{"a"}, Mask: "1", Replacement: "y", Target: "c"}, some},
		{api.Rule{Sources: []string{"b", "a"}, Between: "; ", Mask: "(.*); (.*)", Replacement: "$2-${1}$$$0", Target: "c"}, of("__name__", "up", "a", "x1", "b", "y", "c", "x1-y$y; x1")},
		{api.Rule{Sources: []string{"a", "b", "a"}, Mask: ".*", Replacement: "$0", Target: "a"}, of("__name__", "up", "a", "x1yx1", "b", "y")},
		{api.Rule{Sources: []string{"none", "a", "other"}, Between: "-", Mask: "-x1-", Replacement: "z", Target: "a"}, of("__name__", "up", "a", "z", "b", "y")},
		{api.Rule{Sources: []string{"none"}, Mask: "", Replacement: "z", Target: "c"}, of("__name__", "up", "a", "x1", "b", "y", "c", "z")},
		{api.Rule{Between: "-", Mask: "", Replacement: "z", Target: "c"}, of("__name__", "up", "a", "x1", "b", "y", "c", "z")},
		{api.Rule{Between: "-", Mask: "-", Replacement: "z", Target: "c"}, some},
		{api.Rule{Mask: ".*", Replacement: "", Target: "a"}, of("__name__", "up", "b", "y")},
		{api.Rule{Mask: ".*", Replacement: "", Target: "c"}, some},
		{api.Rule{Sources: []string{"a"}, Mask: "x(z)?1", Replacement: "$1$2", Target: "a"}, of("__name__", "up", "b", "y")},
		{api.Rule{Sources: []string{"a"}, Mask: "((x)|(1))*", Replacement: "$1,$2,$3", Target: "a"}, of("__name__", "up", "a", "1,x,1", "b", "y")},
		{api.Rule{Sources: []string{"__name__"}, Mask: "(.*)", Replacement: "${1}_total", Target: "__name__"}, of("__name__", "up_total", "a", "x1", "b", "y")},
	} {
		c.r.Kind = api.RuleReplace
		applied(t, some, c.want, c.r)
	}
}

// E2: what RuleReplace makes is cut to as many bytes as a value may have, however long it would be.
func TestReplaceCut(t *testing.T) {
	long := of("a", strings.Repeat("ab", 50), "b", bytes(100))
	for _, c := range []struct {
		r    api.Rule
		want string
	}{
		{api.Rule{Sources: []string{"a"}, Mask: "(.*)", Replacement: "$1"}, strings.Repeat("ab", 50)},
		{api.Rule{Sources: []string{"a"}, Mask: "(.*)", Replacement: "-$1"}, "-" + strings.Repeat("ab", 49) + "a"},
		{api.Rule{Sources: []string{"a"}, Mask: "(.*)", Replacement: "$1-"}, strings.Repeat("ab", 50)},
		{api.Rule{Sources: []string{"a"}, Mask: "(.).*", Replacement: strings.Repeat("$1b", 33) + "c"}, strings.Repeat("ab", 33) + "c"},
		{api.Rule{Sources: []string{"a"}, Mask: ".*", Replacement: strings.Repeat("$0", 50)}, strings.Repeat("ab", 50)},
		{api.Rule{Sources: []string{"b", "a"}, Mask: "(v*)(.*)", Replacement: "$2$1"}, strings.Repeat("ab", 50)},
		{api.Rule{Sources: []string{"a", "a"}, Between: "-", Mask: "(.*)-(.*)", Replacement: "$3-$0"}, "-" + strings.Repeat("ab", 49) + "a"},
	} {
		c.r.Kind, c.r.Target = api.RuleReplace, "c"
		applied(t, long, append(long[:2:2], api.Label{Name: "c", Value: c.want}), c.r)
	}
	// Here Expand alone would have more bytes than a text may.
	far := api.Rule{Kind: api.RuleReplace, Sources: sources(20), Mask: "(.*)", Target: "a"}
	for _, c := range []struct{ replacement, want string }{
		{strings.Repeat("$0", 50), strings.Repeat("ab", 50)},
		{"-" + strings.Repeat("$1", 49), "-" + strings.Repeat("ab", 49) + "a"},
		{strings.Repeat("$2", 30) + "+" + strings.Repeat("$1", 19), "+" + strings.Repeat("ab", 49) + "a"},
	} {
		far.Replacement = c.replacement
		applied(t, long, of("a", c.want, "b", bytes(100)), far)
	}
}

// E2: RuleKeep, and RuleDrop; the rules behind what is dropped are not looked at.
func TestKeepAndDrop(t *testing.T) {
	behind := []api.Rule{
		{Kind: api.RuleReplace, Mask: ".*", Target: "a", Replacement: "new"},
		{Kind: api.RuleReplace, Mask: ".*", Sources: []string{"a"}, Target: "n", Replacement: "more than may be"},
	}
	full := append(of("a", "x1", "b", "y"), many(18, "v")...)
	for _, c := range []struct {
		r    api.Rule
		like bool
	}{
		{api.Rule{Sources: []string{"a"}, Mask: "x."}, true},
		{api.Rule{Sources: []string{"a"}, Mask: "x"}, false},
		{api.Rule{Sources: []string{"a"}, Mask: "1"}, false},
		{api.Rule{Sources: []string{"a"}, Mask: ""}, false},
		{api.Rule{Sources: []string{"none"}, Mask: ""}, true},
		{api.Rule{Mask: ""}, true},
		{api.Rule{Mask: ".+"}, false},
		{api.Rule{Sources: []string{"a", "none", "b"}, Between: "|", Mask: `x1\|\|y`}, true},
		{api.Rule{Sources: []string{"b", "a"}, Mask: "x1y"}, false},
	} {
		keep, drop := c.r, c.r
		keep.Kind, drop.Kind = api.RuleKeep, api.RuleDrop
		if c.like {
			applied(t, some, some, keep)
			dropped(t, some, drop)
			dropped(t, full, append([]api.Rule{drop}, behind...)...)
			refused(t, api.ErrMany, full, append([]api.Rule{keep}, behind...)...)
		} else {
			applied(t, some, some, drop)
			dropped(t, some, keep)
			dropped(t, full, append([]api.Rule{keep}, behind...)...)
			refused(t, api.ErrMany, full, append([]api.Rule{drop}, behind...)...)
		}
	}
	dropped(t, nil, api.Rule{Kind: api.RuleDrop})
	applied(t, nil, nil, api.Rule{Kind: api.RuleKeep})
}

// E2: RuleShare.
func TestShare(t *testing.T) {
	long := of("a", bytes(99)+"w", "b", "y")
	for _, modulus := range []int{1, 2, 7, 10, 1000, 999983, 1000000} {
		r := api.Rule{Kind: api.RuleShare, Sources: []string{"a"}, Modulus: modulus, Target: "s"}
		applied(t, some, append(some[:3:3], api.Label{Name: "s", Value: share("x1", modulus)}), r)
		r.Target = "a"
		applied(t, some, of("__name__", "up", "a", share("x1", modulus), "b", "y"), r)
		r.Sources, r.Between, r.Mask = []string{"b", "none", "a"}, ";\xff", "no mask of it"
		applied(t, some, of("__name__", "up", "a", share("y;\xff;\xffx1", modulus), "b", "y"), r)
		r.Sources = []string{"none"}
		applied(t, some, of("__name__", "up", "a", "0", "b", "y"), r)
		r.Sources = nil
		applied(t, some, of("__name__", "up", "a", "0", "b", "y"), r)
		r.Sources, r.Between = []string{"a"}, ""
		applied(t, long, of("a", share(bytes(99)+"w", modulus), "b", "y"), r)
		r.Sources = []string{"a", "b"}
		applied(t, long, of("a", share(bytes(99)+"w", modulus), "b", "y"), r)
		r.Sources = []string{"b", "a"}
		applied(t, long, of("a", share("y"+bytes(99), modulus), "b", "y"), r)
	}
	// What is above 2 to the power of 63 is no number below 0.
	for _, s := range []string{"a", "b", "c", "d", "e", "f", "g", "h"} {
		r := api.Rule{Kind: api.RuleShare, Sources: []string{"a"}, Modulus: 1000000, Target: "a"}
		applied(t, of("a", s), of("a", share(s, 1000000)), r)
	}
}

// E2: RuleMap.
func TestMap(t *testing.T) {
	for _, c := range []struct {
		mask, replacement string
		want              []api.Label
	}{
		{"(.)", "l_$1", of("__name__", "up", "a", "x1", "b", "y", "l_a", "x1", "l_b", "y")},
		{".", "b", of("__name__", "up", "a", "x1", "b", "y")},
		{"a", "b", of("__name__", "up", "a", "x1", "b", "x1")},
		{"(a)|b", "b$1", of("__name__", "up", "a", "x1", "b", "y", "ba", "x1")},
		{"a|b", "__name__", of("__name__", "y", "a", "x1", "b", "y")},
		{".*", "a", of("__name__", "up", "a", "y", "b", "y")},
		{"none", "c", some},
		{"(.)", "1$1", some},
		{"(.)", "$1-", some},
		{".", "", some},
		{"(.)", "$2", some},
		{"(a)|b", "$1", some},
		{"(.).*", strings.Repeat("$1", 40), of(strings.Repeat("_", 40), "up", "__name__", "up", "a", "x1", strings.Repeat("a", 40), "x1", "b", "y", strings.Repeat("b", 40), "y")},
		{".+", strings.Repeat("n", 41), some},
		{".+", strings.Repeat("$0", 50), some},
		{".+", "$0$$", some},
		{".+", "$0", some},
	} {
		applied(t, some, c.want, api.Rule{Kind: api.RuleMap, Mask: c.mask, Replacement: c.replacement})
	}
	// Labels as they were ahead of the rule: what was put there is neither taken on nor looked at.
	chain := of("n1", "a", "n11", "b", "n111", "c")
	applied(t, chain, of("n1", "a", "n11", "a", "n111", "b", "n1111", "c"), api.Rule{Kind: api.RuleMap, Mask: ".*", Replacement: "${0}1"})
}

// E2: RuleLose, and RuleHold.
func TestLoseAndHold(t *testing.T) {
	for _, c := range []struct {
		mask       string
		lose, hold []api.Label
	}{
		{"a", of("__name__", "up", "b", "y"), of("a", "x1")},
		{"[ab]", of("__name__", "up"), of("a", "x1", "b", "y")},
		{"a|__name__", of("b", "y"), of("__name__", "up", "a", "x1")},
		{".*", nil, some},
		{"", some, nil},
		{"x1", some, nil},
		{"_", some, nil},
		{"aa?", of("__name__", "up", "b", "y"), of("a", "x1")},
	} {
		applied(t, some, c.lose, api.Rule{Kind: api.RuleLose, Mask: c.mask})
		applied(t, some, c.hold, api.Rule{Kind: api.RuleHold, Mask: c.mask})
	}
}

// E2: errors ahead of anything's being done, in their order.
func TestErrorsAhead(t *testing.T) {
	drop := api.Rule{Kind: api.RuleDrop}
	rules := func(n int, r api.Rule) []api.Rule {
		var l []api.Rule
		for range n {
			l = append(l, r)
		}
		return l
	}
	unsorted, none := of("b", "y", "a", "x"), api.Rule{}
	applied(t, some, some, rules(30, api.Rule{Kind: api.RuleKeep})...)
	refused(t, api.ErrMany, some, rules(31, drop)...)
	refused(t, api.ErrMany, unsorted, rules(31, drop)...)
	refused(t, api.ErrMany, some, rules(31, none)...)
	refused(t, api.ErrState, unsorted)
	refused(t, api.ErrState, unsorted, drop)
	refused(t, api.ErrState, unsorted, none)
	refused(t, api.ErrForm, of("1", "x"), none)
	refused(t, api.ErrForm, of("a", ""), none)
	refused(t, api.ErrTwice, of("a", "x", "a", "x"), none)
	refused(t, api.ErrMany, of("a", bytes(101)), none)
	refused(t, api.ErrMany, many(21, "v"), none)
	for _, c := range wrongParts {
		c.r.Kind = api.RuleLose
		refused(t, c.want, some, c.r)
		refused(t, c.want, some, drop, c.r)
		refused(t, c.want, some, c.r, none)
		refused(t, api.ErrKind, some, none, c.r)
		refused(t, api.ErrKind, some, drop, none, c.r)
	}
}

// E2: too many labels behind a rule.
func TestTooManyLabels(t *testing.T) {
	full, less := many(20, "v"), many(19, "v")
	put := func(name string) api.Rule { return api.Rule{Kind: api.RuleReplace, Target: name, Replacement: "w"} }
	lose := api.Rule{Kind: api.RuleLose, Mask: "n[ab]"}
	applied(t, less, append(many(19, "v"), api.Label{Name: "x", Value: "w"}), put("x"))
	applied(t, full, append(many(19, "v"), api.Label{Name: "nt", Value: "w"}), put("nt"))
	refused(t, api.ErrMany, full, put("x"))
	refused(t, api.ErrMany, less, put("x"), put("y"))
	refused(t, api.ErrMany, less, put("x"), put("y"), lose)
	refused(t, api.ErrMany, full, put("x"), api.Rule{Kind: api.RuleDrop})
	applied(t, full, full, api.Rule{Kind: api.RuleReplace, Target: "x"})
	applied(t, full, full, api.Rule{Kind: api.RuleReplace, Target: "x", Mask: "none", Replacement: "w"})
	applied(t, full, append(many(20, "v")[2:], of("x", "w", "y", "w")...), lose, put("x"), put("y"))
	refused(t, api.ErrMany, full, api.Rule{Kind: api.RuleShare, Target: "x", Modulus: 3})
	applied(t, full, append(of("na", "0"), full[1:]...), api.Rule{Kind: api.RuleShare, Target: "na", Modulus: 3})
	refused(t, api.ErrMany, full, api.Rule{Kind: api.RuleMap, Mask: "nb", Replacement: "x"})
	applied(t, full, full, api.Rule{Kind: api.RuleMap, Mask: "nb", Replacement: "nc"})
	applied(t, less, append(many(19, "v"), api.Label{Name: "x", Value: "v"}), api.Rule{Kind: api.RuleMap, Mask: ".*", Replacement: "x"})
	refused(t, api.ErrMany, less, api.Rule{Kind: api.RuleMap, Mask: "n([ab])", Replacement: "x$1"})
	refused(t, api.ErrMany, many(11, "v"), api.Rule{Kind: api.RuleMap, Mask: "(.*)", Replacement: "x$1"})
}

// E2: how long a Source may be, of a rule of any kind.
func TestLongSource(t *testing.T) {
	l := of("a", bytes(100), "b", bytes(100), "c", bytes(81), "d", bytes(82))
	for kind := api.RuleReplace; kind <= api.RuleHold; kind++ {
		r := api.Rule{Kind: kind, Mask: "v*", Target: "b", Replacement: "w", Modulus: 1}
		for _, c := range []struct {
			sources []string
			between int
			want    api.Errno
		}{
			{sources(20), 0, api.OK},                   // 2000 bytes
			{append(sources(19), "c"), 1, api.OK},      // 1900, 81, and 19 between them
			{append(sources(19), "d"), 1, api.ErrMany}, // one more
			{sources(20), 1, api.ErrMany},
			{sources(11), 90, api.OK}, // 1100 and 900
			{sources(11), 91, api.ErrMany},
			{sources(20), 100, api.ErrMany},
		} {
			r.Sources, r.Between = c.sources, bytes(c.between)
			if c.want != api.OK {
				refused(t, c.want, l, r)
				refused(t, c.want, l, api.Rule{Kind: api.RuleKeep}, r)
				dropped(t, l, api.Rule{Kind: api.RuleDrop}, r)
			} else if _, _, e := relabel.Apply(l, []api.Rule{r}); e != api.OK {
				t.Errorf("kind %d: %d Sources with %d bytes between them: %d", kind, len(c.sources), c.between, e)
			}
		}
	}
}
