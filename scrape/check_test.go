package scrape_test

import (
	"strconv"
	"strings"
	"testing"

	"gleaner/api"
	"gleaner/scrape"
)

// of some names and values, one behind the other.
func of(namesAndValues ...string) []api.Label {
	var l []api.Label
	for i := 0; i < len(namesAndValues); i += 2 {
		l = append(l, api.Label{Name: namesAndValues[i], Value: namesAndValues[i+1]})
	}
	return l
}

// many labels, whose names are na to nt.
func many(n int, value string) []api.Label {
	var l []api.Label
	for i := range n {
		l = append(l, api.Label{Name: "n" + string(rune('a'+i)), Value: value})
	}
	return l
}

// list of series, by their labels.
func list(l ...[]api.Label) [][]api.Label { return l }

// rising: as many series, which rise.
func rising(n int) [][]api.Label {
	var l [][]api.Label
	for i := range n {
		l = append(l, of("a", strconv.Itoa(1000+i)))
	}
	return l
}

func watch(target []api.Label, seen ...[]api.Label) api.Watch {
	return api.Watch{Target: api.Target{Labels: target}, Seen: seen}
}

// wrongLabels, and which error they are.
var wrongLabels = []struct {
	l    []api.Label
	want api.Errno
}{
	{of("1", "x"), api.ErrForm},
	{of("a", ""), api.ErrForm},
	{of("a", strings.Repeat("v", 101)), api.ErrMany},
	{many(21, "v"), api.ErrMany},
	{of("a", "x", "a", "y"), api.ErrTwice},
	{of("b", "x", "a", "x"), api.ErrState},
}

// wrongWatches, and which error each is; of more than one the first.
func wrongWatches() []struct {
	what string
	w    api.Watch
	want api.Errno
} {
	type wrong = struct {
		what string
		w    api.Watch
		want api.Errno
	}
	bad := of("1", "x")
	l := []wrong{
		{"too many were seen", watch(nil, rising(301)...), api.ErrMany},
		{"too many were seen that are not right", watch(nil, append(make([][]api.Label, 300), bad)...), api.ErrMany},
		{"a wrong target, and too many were seen", watch(bad, rising(301)...), api.ErrForm},
		{"series fall", watch(nil, of("b", "x"), of("a", "x")), api.ErrState},
		{"series fall by their values", watch(nil, of("a", "x"), of("a", "y"), of("a", "xy")), api.ErrState},
		{"series stay", watch(of("a", "x"), of("a", "x"), of("b", "x"), of("b", "x")), api.ErrState},
		{"series without labels stay", watch(nil, nil, nil), api.ErrState},
		{"one without labels behind another one", watch(nil, of("a", "x"), nil), api.ErrState},
		{"a longer one ahead of its beginning", watch(nil, of("a", "x", "b", "y"), of("a", "x")), api.ErrState},
		{"series fall, and the last one is not right", watch(nil, of("b", "x"), of("a", "x"), bad), api.ErrForm},
		{"the 300th one is the 299th", watch(nil, append(rising(299), rising(299)[298])...), api.ErrState},
	}
	for _, x := range wrongLabels {
		l = append(l,
			wrong{"a wrong target", watch(x.l), x.want},
			wrong{"a wrong target, and wrong series", watch(x.l, of("b", "x"), of("a", "x"), of("-", "-")), x.want},
			wrong{"a wrong series", watch(nil, x.l), x.want},
			wrong{"a wrong series behind others", watch(of("job", "j"), of("A", "x"), x.l, of("b", "x")), x.want},
			wrong{"the first of two wrong ones", watch(nil, x.l, of("-", "-"), of("a", strings.Repeat("v", 101))), x.want})
	}
	return l
}

// J1: what Check tells, and Run first of all.
func TestCheckWrong(t *testing.T) {
	rule := api.Rule{}
	for _, c := range wrongWatches() {
		if e := scrape.Check(c.w); e != c.want {
			t.Errorf("%s: it is %d, not %d", c.what, e, c.want)
		}
		refuses(t, c.w, api.Scrape{}, api.Known{}, c.want)
		refuses(t, c.w, api.Scrape{Now: api.MaxTime + 1}, api.Known{}, c.want)
		refuses(t, c.w, api.Scrape{Rules: []api.Rule{rule}}, api.Known{Lasts: []int{0}}, c.want)
	}
}

// J1: watches that are right.
func TestCheckRight(t *testing.T) {
	for _, w := range []api.Watch{
		{},
		watch(of("job", "j")),
		watch(nil, rising(300)...),
		watch(many(20, strings.Repeat("v", 100)), nil, of("__name__", "up"), of("__name__", "up", "a", "x"), of("a", "x"), of("a", "x", "b", "x"), of("a", "y"), many(20, "v")),
		{Target: api.Target{Labels: []api.Label{}}, Seen: [][]api.Label{{}}},
	} {
		if e := scrape.Check(w); e != api.OK {
			t.Errorf("%v: it is %d", w, e)
		}
	}
}

// refuses: this must be the error, and nothing else be told.
func refuses(t *testing.T, w api.Watch, s api.Scrape, k api.Known, want api.Errno) {
	t.Helper()
	if o, e := scrape.Run(w, s, k); !same(o, api.Outcome{}) || e != want {
		t.Errorf("%v, %v, %v: it is %v %d, not %d", w, s, k, o, e, want)
	}
}

// J1: the errors of Run behind those of Check, in their order.
func TestRunWrong(t *testing.T) {
	wrongKnown := api.Known{Lasts: []int{0}}
	aRule, noRule := api.Rule{Kind: api.RuleKeep}, api.Rule{}
	wrongTarget := api.Rule{Kind: api.RuleReplace, Target: "1"}
	wrongShare := api.Rule{Kind: api.RuleShare, Target: "a"}
	rules := func(n int, r api.Rule) []api.Rule {
		l := make([]api.Rule, n)
		for i := range l {
			l[i] = r
		}
		return l
	}
	for _, s := range []api.Scrape{
		{Now: api.MaxTime + 1}, {Now: -api.MaxTime - 1}, {Now: 1<<63 - 1}, {Now: -1 << 63},
		{Limits: api.Limits{Bytes: -1}}, {Limits: api.Limits{Bytes: 20001}}, {Limits: api.Limits{Bytes: 1<<63 - 1}},
		{Limits: api.Limits{Readings: -1}}, {Limits: api.Limits{Readings: 301}}, {Limits: api.Limits{Readings: -1 << 63}},
	} {
		refuses(t, api.Watch{}, s, api.Known{}, api.ErrRange)
		s.Rules = rules(31, noRule)
		refuses(t, api.Watch{}, s, wrongKnown, api.ErrRange)
		s.Told, s.Body = true, "up 1"
		refuses(t, api.Watch{}, s, api.Known{}, api.ErrRange)
	}
	for _, c := range []struct {
		rules []api.Rule
		want  api.Errno
	}{
		{rules(31, aRule), api.ErrMany},
		{rules(31, noRule), api.ErrMany},
		{rules(1, noRule), api.ErrKind},
		{rules(30, wrongTarget), api.ErrForm},
		{append(rules(29, aRule), wrongShare), api.ErrRange},
		{[]api.Rule{aRule, wrongShare, noRule}, api.ErrRange},
		{[]api.Rule{noRule, wrongShare}, api.ErrKind},
		{[]api.Rule{{Kind: api.RuleLose, Mask: "("}, noRule}, api.ErrForm},
		{rules(30, aRule), api.ErrForm}, // what is known is wrong alone
		{nil, api.ErrForm},
	} {
		for _, told := range []bool{false, true} {
			refuses(t, api.Watch{}, api.Scrape{Rules: c.rules, Told: told}, wrongKnown, c.want)
		}
	}
	for _, k := range []struct {
		k    api.Known
		want api.Errno
	}{
		{api.Known{Refs: []api.Ref{{Ref: 0, Labels: of("a", "x")}}, Lasts: []int{0}, Has: []bool{false}}, api.ErrRange},
		{api.Known{Refs: []api.Ref{{Ref: 2, Labels: of("a", "x")}, {Ref: 1, Labels: of("b", "x")}}, Lasts: []int{0, 0}, Has: []bool{false, false}}, api.ErrState},
		{api.Known{Refs: []api.Ref{{Ref: 1, Labels: of("a", "x")}, {Ref: 2, Labels: of("a", "x")}}, Lasts: []int{0, 0}, Has: []bool{false, false}}, api.ErrTwice},
		{api.Known{Refs: make([]api.Ref, 1001), Lasts: make([]int, 1001), Has: make([]bool, 1001)}, api.ErrMany},
	} {
		refuses(t, watch(of("job", "j"), of("a", "x")), api.Scrape{Told: true, Body: "up 1", Limits: api.Limits{Bytes: 10, Readings: 1}}, k.k, k.want)
	}
}

// J1: the bounds themselves are right.
func TestRunBounds(t *testing.T) {
	for _, s := range []api.Scrape{
		{}, {Now: api.MaxTime}, {Now: -api.MaxTime},
		{Limits: api.Limits{Bytes: 20000, Readings: 300}},
		{Rules: []api.Rule{{Kind: api.RuleKeep}, {Kind: api.RuleDrop}}},
		{Rules: func() []api.Rule {
			l := make([]api.Rule, 30)
			for i := range l {
				l[i].Kind = api.RuleHold
			}
			return l
		}()},
	} {
		for _, told := range []bool{false, true} {
			s.Told = told
			if o, e := scrape.Run(api.Watch{}, s, api.Known{}); e != api.OK || o.Failed == told {
				t.Errorf("%v: it is %v %d", s, o, e)
			}
		}
	}
}
