package relabel_test

import (
	"strings"
	"testing"

	"gleaner/api"
	"gleaner/relabel"
)

// sources, as many.
func sources(n int) []string {
	var l []string
	for range n {
		l = append(l, "a")
	}
	return l
}

func bytes(n int) string { return strings.Repeat("v", n) }

// E1: rules that are right, each kind with what it does not ask for, too.
var rightRules = []api.Rule{
	{Kind: api.RuleReplace, Target: "a"},
	{Kind: api.RuleReplace, Target: "__name__", Mask: "(.*);(.*)", Between: ";", Sources: []string{"a", "b", "a"}, Replacement: "$2-${1}$$$0"},
	{Kind: api.RuleReplace, Target: strings.Repeat("n", 40), Replacement: bytes(100), Between: bytes(100), Sources: sources(20), Modulus: -1},
	{Kind: api.RuleReplace, Target: "a", Replacement: strings.Repeat("$1", 50), Mask: strings.Repeat("a", 60)},
	{Kind: api.RuleKeep},
	{Kind: api.RuleKeep, Mask: "a|b", Target: "1", Replacement: "$", Modulus: -5},
	{Kind: api.RuleDrop},
	{Kind: api.RuleDrop, Mask: "[a-z]+", Target: bytes(100), Replacement: "$x", Sources: []string{"_"}},
	{Kind: api.RuleShare, Target: "a", Modulus: 1},
	{Kind: api.RuleShare, Target: "a", Modulus: 1000000, Replacement: "$"},
	{Kind: api.RuleMap},
	{Kind: api.RuleMap, Mask: "(.)", Replacement: "1$1", Target: "1"},
	{Kind: api.RuleLose},
	{Kind: api.RuleLose, Mask: ".", Target: "", Replacement: "${"},
	{Kind: api.RuleHold},
	{Kind: api.RuleHold, Mask: "()", Target: "a b", Replacement: "$", Modulus: 1 << 62},
}

func TestCheckRight(t *testing.T) {
	for _, r := range rightRules {
		if e := relabel.Check(r); e != api.OK {
			t.Errorf("%+v: it is %d", r, e)
		}
	}
}

// E1: what is wrong with a rule of any kind, whatever else it has.
var wrongParts = []struct {
	what string
	r    api.Rule
	want api.Errno
}{
	{"too many Sources", api.Rule{Sources: sources(21)}, api.ErrMany},
	{"too long a Between", api.Rule{Between: bytes(101)}, api.ErrMany},
	{"too long a Replacement", api.Rule{Replacement: bytes(101)}, api.ErrMany},
	{"too long a Target", api.Rule{Target: bytes(101)}, api.ErrMany},
	{"too many Sources, none of them a name", api.Rule{Sources: make([]string, 21)}, api.ErrMany},
	{"too long a Target, and a Source that is no name", api.Rule{Target: bytes(101), Sources: []string{""}}, api.ErrMany},
	{"too long a Replacement that is no template", api.Rule{Replacement: strings.Repeat("$", 101)}, api.ErrMany},
	{"too long a Between, and a wrong mask", api.Rule{Between: bytes(101), Mask: "("}, api.ErrMany},
	{"an empty Source", api.Rule{Sources: []string{""}}, api.ErrForm},
	{"a Source that is no name", api.Rule{Sources: []string{"a", "b", "1"}}, api.ErrForm},
	{"a Source that is too long", api.Rule{Sources: []string{strings.Repeat("n", 41)}}, api.ErrForm},
	{"a Source that is no name, and a mask that is too long", api.Rule{Sources: []string{"-"}, Mask: bytes(61)}, api.ErrForm},
	{"a mask that is none", api.Rule{Mask: "("}, api.ErrForm},
	{"a mask that is too long", api.Rule{Mask: bytes(61)}, api.ErrMany},
	{"a mask with too many groups", api.Rule{Mask: strings.Repeat("()", 10)}, api.ErrMany},
	{"a mask with a wrong `-`", api.Rule{Mask: "[b-a]"}, api.ErrRange},
	{"a mask with rounds of nothing", api.Rule{Mask: "(a?)*"}, api.ErrState},
}

func TestCheckParts(t *testing.T) {
	for _, c := range wrongParts {
		for kind := api.RuleReplace; kind <= api.RuleHold; kind++ {
			r := c.r
			r.Kind = kind
			if e := relabel.Check(r); e != c.want {
				t.Errorf("%s, kind %d: it is %d, not %d", c.what, kind, e, c.want)
			}
			// What its kind asks for comes behind these; so it is the same, if that is right.
			if r.Target == "" {
				r.Target = "a"
			}
			r.Modulus = 1
			if e := relabel.Check(r); e != c.want {
				t.Errorf("%s, kind %d, and all that its kind asks for: it is %d, not %d", c.what, kind, e, c.want)
			}
		}
	}
}

// E1: a kind that is none comes ahead of all.
func TestCheckKind(t *testing.T) {
	for _, kind := range []int{0, -1, 8, 100, 1 << 62, -1 << 63} {
		for _, c := range wrongParts {
			r := c.r
			r.Kind = kind
			if e := relabel.Check(r); e != api.ErrKind {
				t.Errorf("kind %d, %s: it is %d", kind, c.what, e)
			}
		}
		for _, r := range rightRules {
			r.Kind = kind
			if e := relabel.Check(r); e != api.ErrKind {
				t.Errorf("kind %d: it is %d", kind, e)
			}
		}
	}
}

// E1: what only some kinds ask for.
func TestCheckByKind(t *testing.T) {
	long := strings.Repeat("n", 41)
	for _, c := range []struct {
		r    api.Rule
		want api.Errno
	}{
		{api.Rule{Kind: api.RuleReplace}, api.ErrForm},
		{api.Rule{Kind: api.RuleReplace, Target: "1"}, api.ErrForm},
		{api.Rule{Kind: api.RuleReplace, Target: long}, api.ErrForm},
		{api.Rule{Kind: api.RuleReplace, Target: "$1"}, api.ErrForm},
		{api.Rule{Kind: api.RuleReplace, Target: "a", Replacement: "$"}, api.ErrForm},
		{api.Rule{Kind: api.RuleReplace, Target: "a", Replacement: "$1${1"}, api.ErrForm},
		{api.Rule{Kind: api.RuleReplace, Target: "a", Replacement: "$a"}, api.ErrForm},
		{api.Rule{Kind: api.RuleReplace, Target: "a", Replacement: "$9", Mask: ""}, api.OK},
		{api.Rule{Kind: api.RuleShare, Modulus: 1}, api.ErrForm},
		{api.Rule{Kind: api.RuleShare, Modulus: 1, Target: long}, api.ErrForm},
		{api.Rule{Kind: api.RuleShare, Modulus: 0, Target: "1"}, api.ErrForm},
		{api.Rule{Kind: api.RuleShare, Modulus: 0, Target: "a"}, api.ErrRange},
		{api.Rule{Kind: api.RuleShare, Modulus: -1, Target: "a"}, api.ErrRange},
		{api.Rule{Kind: api.RuleShare, Modulus: -1 << 63, Target: "a"}, api.ErrRange},
		{api.Rule{Kind: api.RuleShare, Modulus: 1000001, Target: "a"}, api.ErrRange},
		{api.Rule{Kind: api.RuleShare, Modulus: 1<<63 - 1, Target: "a"}, api.ErrRange},
		{api.Rule{Kind: api.RuleMap, Replacement: "$"}, api.ErrForm},
		{api.Rule{Kind: api.RuleMap, Replacement: "a${1}$b"}, api.ErrForm},
	} {
		if e := relabel.Check(c.r); e != c.want {
			t.Errorf("%+v: it is %d, not %d", c.r, e, c.want)
		}
	}
}
