package relabel_test

import (
	"math/rand"
	"reflect"
	"regexp"
	"slices"
	"strconv"
	"strings"
	"testing"
	"unsafe"

	"gleaner/api"
	"gleaner/labels"
	"gleaner/relabel"
)

// names, some of them alike.
var names = []string{"__name__", "a", "ab", "b", "c", "l_a", "n1"}

// anyLabels that are right, few of them and alike; now and then many, or wrong ones.
func anyLabels(r *rand.Rand) []api.Label {
	var l []api.Label
	for _, i := range r.Perm(len(names))[:r.Intn(len(names))] {
		l = append(l, api.Label{Name: names[i], Value: []string{"a", "b", "ab", "x1", "aab", "\n", "\xff", bytes(60), bytes(100)}[r.Intn(9)]})
	}
	if r.Intn(8) == 0 {
		l = append(l, many(20-len(l), "v")...)
	}
	slices.SortFunc(l, func(x, y api.Label) int { return strings.Compare(x.Name, y.Name) })
	if len(l) > 0 && r.Intn(40) == 0 {
		l[r.Intn(len(l))].Value = []string{"", bytes(101)}[r.Intn(2)]
	}
	return l
}

// anyRule, right most of the time.
func anyRule(r *rand.Rand) api.Rule {
	one := func(of ...string) string { return of[r.Intn(len(of))] }
	x := api.Rule{
		Kind:        1 + r.Intn(7),
		Between:     one("", "", ";", "a", bytes(100)),
		Mask:        one("", ".*", "(.*)", "(.)(.*)", "a", "a*b?", "(a|b)*", "[a-b]+", "(l_)?(.)", "n(.*)", "[^v]*", ".*;(.*)", "v+", "x([0-9])"),
		Modulus:     1 + r.Intn(10),
		Target:      one(names...),
		Replacement: one("", "$1", "$0", "x", "${1}$2", "l_$1", "1$0", "$2$1$$", "a", "$0$0", "-", "n$1"),
	}
	for range r.Intn(4) {
		x.Sources = append(x.Sources, one(names...))
	}
	if r.Intn(60) == 0 {
		switch r.Intn(6) {
		case 0:
			x.Kind = r.Intn(20) - 6
		case 1:
			x.Sources = append(x.Sources, "1")
		case 2:
			x.Mask = one("(", "(a*)*", "[b-a]", bytes(61))
		case 3:
			x.Target = one("", "1", bytes(41), bytes(101))
		case 4:
			x.Modulus = r.Intn(3) - 2
		case 5:
			x.Replacement = one("$", "$a", bytes(101))
		}
	}
	return x
}

func anyRules(r *rand.Rand, most int) []api.Rule {
	var l []api.Rule
	for range r.Intn(most + 1) {
		l = append(l, anyRule(r))
	}
	return l
}

// filled: a template, by the expressions of the library.
var piece = regexp.MustCompile(`\$(\$|[0-9]|\{[0-9]\})`)

func filled(template string, took []string) string {
	return piece.ReplaceAllStringFunc(template, func(p string) string {
		n := strings.Trim(p[1:], "{}")
		if n == "$" {
			return n
		}
		if i, _ := strconv.Atoi(n); i < len(took) {
			return took[i]
		}
		return ""
	})
}

// done: a rule by E2 as it stands there, on labels as a map, by the expressions of the library.
func done(r api.Rule, l map[string]string) (stay bool) {
	mask := regexp.MustCompile("(?s)^(?:" + r.Mask + ")$")
	put := func(name, value string) {
		delete(l, name)
		if value != "" {
			l[name] = value[:min(len(value), 100)]
		}
	}
	var values []string
	for _, s := range r.Sources {
		values = append(values, l[s])
	}
	source := strings.Join(values, r.Between)
	ahead := map[string]string{}
	var rising []string
	for name, value := range l {
		ahead[name] = value
		rising = append(rising, name)
	}
	slices.Sort(rising)
	switch r.Kind {
	case api.RuleReplace:
		if took := mask.FindStringSubmatch(source); took != nil {
			put(r.Target, filled(r.Replacement, took))
		}
	case api.RuleKeep:
		return mask.MatchString(source)
	case api.RuleDrop:
		return !mask.MatchString(source)
	case api.RuleShare:
		put(r.Target, "0")
		if source != "" {
			put(r.Target, share(source[:min(len(source), 100)], r.Modulus))
		}
	case api.RuleMap:
		for _, name := range rising {
			if took := mask.FindStringSubmatch(name); took != nil && labels.IsName(filled(r.Replacement, took)) {
				put(filled(r.Replacement, took), ahead[name])
			}
		}
	case api.RuleLose, api.RuleHold:
		for _, name := range rising {
			if mask.MatchString(name) == (r.Kind == api.RuleLose) {
				put(name, "")
			}
		}
	}
	return true
}

// wanted: rules one after the other.
func wanted(l []api.Label, rules []api.Rule) ([]api.Label, bool, api.Errno) {
	if e := labels.Check(l); e != api.OK {
		return nil, false, e
	}
	for _, r := range rules {
		if e := relabel.Check(r); e != api.OK {
			return nil, false, e
		}
	}
	m := map[string]string{}
	for _, x := range l {
		m[x.Name] = x.Value
	}
	for _, r := range rules {
		if !done(r, m) {
			return nil, false, api.OK
		}
		if len(m) > 20 {
			return nil, false, api.ErrMany
		}
	}
	var made []api.Label
	for name, value := range m {
		made = append(made, api.Label{Name: name, Value: value})
	}
	slices.SortFunc(made, func(x, y api.Label) int { return strings.Compare(x.Name, y.Name) })
	return made, true, api.OK
}

// E2: many labels and rules, as they are to be. P1: each is answered.
func TestAsItStands(t *testing.T) {
	r := rand.New(rand.NewSource(1))
	for range 30000 {
		l, rules := anyLabels(r), anyRules(r, 5)
		m, stay, e := relabel.Apply(l, rules)
		n, want, f := wanted(l, rules)
		if !same(m, n) || stay != want || e != f {
			t.Fatalf("%q by %+v is\n%q %v %d, not\n%q %v %d", l, rules, m, stay, e, n, want, f)
		}
	}
}

// E3: rules one behind the other are as if the second ones were done on what came of the first ones; and what comes is right.
func TestOneBehindTheOther(t *testing.T) {
	r := rand.New(rand.NewSource(2))
	for range 20000 {
		l, first, second := anyLabels(r), anyRules(r, 4), anyRules(r, 4)
		m, stay, e := relabel.Apply(l, slices.Concat(first, second))
		if f := labels.Check(m); f != api.OK {
			t.Fatalf("%q by %+v and %+v is %q, which is %d", l, first, second, m, f)
		}
		if _, _, f := relabel.Apply(l, second); f != api.OK {
			continue // the second ones are wrong by themselves, or of these labels: there is nothing to be held against
		}
		n, want, f := relabel.Apply(l, first)
		if want {
			n, want, f = relabel.Apply(n, second)
		}
		if !same(m, n) || stay != want || e != f {
			t.Fatalf("%q by %+v and %+v is\n%q %v %d, but by the ones and then the others\n%q %v %d", l, first, second, m, stay, e, n, want, f)
		}
	}
}

// P1: whatever is handed in is answered. P3: by the same, each time.
func TestAnything(t *testing.T) {
	r := rand.New(rand.NewSource(3))
	const from = "ab1_$${}()[]|*+?.\\^-;\x00\xff"
	text := func(n int) string {
		b := make([]byte, r.Intn(n))
		for i := range b {
			b[i] = from[r.Intn(len(from))]
		}
		return string(b)
	}
	for range 20000 {
		l, rules := anyLabels(r), anyRules(r, 3)
		for i := range rules {
			x := &rules[i]
			switch r.Intn(5) {
			case 0:
				x.Mask = text(8)
			case 1:
				x.Replacement = text(8)
			case 2:
				x.Target, x.Between = text(4), text(120)
			case 3:
				x.Kind, x.Modulus = r.Int()-r.Int(), r.Int()-r.Int()
			}
		}
		all := func() []any {
			m, stay, e := relabel.Apply(l, rules)
			if e != api.OK && (len(m) != 0 || stay) {
				t.Fatalf("%q by %+v is %q %v with an error, %d", l, rules, m, stay, e)
			}
			told := []any{m, stay, e}
			for _, x := range rules {
				told = append(told, relabel.Check(x))
			}
			return told
		}
		if a, b := all(), all(); !reflect.DeepEqual(a, b) {
			t.Fatalf("%q by %+v: %v, and then %v", l, rules, a, b)
		}
	}
}

// spare: a list with room behind it, in which something stands.
func spare[T any](l []T, behind T) []T {
	return append(slices.Clone(l), behind, behind)[:len(l)]
}

// P2: what is handed in is only read, the spare room behind it too.
func TestOnlyRead(t *testing.T) {
	r := rand.New(rand.NewSource(4))
	for range 5000 {
		l := spare(anyLabels(r), api.Label{Name: "z", Value: "z"})
		rules := spare(anyRules(r, 4), api.Rule{Kind: 3, Mask: "z"})
		for i := range rules {
			rules[i].Sources = spare(rules[i].Sources, "z")
		}
		keptLabels, keptRules := slices.Clone(l[:len(l)+2]), slices.Clone(rules[:len(rules)+2])
		var keptSources []string
		for i := range rules {
			keptSources = append(keptSources, rules[i].Sources[:len(rules[i].Sources)+2]...)
			keptRules[i].Sources = slices.Clone(rules[i].Sources)
		}
		relabel.Apply(l, rules)
		var sources []string
		for _, x := range rules {
			relabel.Check(x)
			sources = append(sources, x.Sources[:len(x.Sources)+2]...)
		}
		if !reflect.DeepEqual(l[:len(l)+2], keptLabels) || !slices.EqualFunc(rules[:len(rules)+2], keptRules, func(x, y api.Rule) bool {
			return slices.Equal(x.Sources, y.Sources) && x.Kind == y.Kind && x.Mask == y.Mask && x.Between == y.Between && x.Target == y.Target && x.Replacement == y.Replacement && x.Modulus == y.Modulus
		}) || !slices.Equal(sources, keptSources) {
			t.Fatalf("what was handed in was changed: %q %+v", l, rules)
		}
	}
}

// lies: is a text a piece of another one?
func lies(s, in string) bool {
	at, from := uintptr(unsafe.Pointer(unsafe.StringData(s))), uintptr(unsafe.Pointer(unsafe.StringData(in)))
	return len(s) > 0 && at >= from && at < from+uintptr(len(in))
}

// P2: an answer is new memory, the caller's, whether rules do something or not.
func TestNew(t *testing.T) {
	for _, rules := range [][]api.Rule{
		nil,
		{{Kind: api.RuleReplace, Mask: "none", Sources: []string{"aa"}, Target: "bb"}},
		{{Kind: api.RuleReplace, Mask: "", Target: "cc", Replacement: "whole"}},
		{{Kind: api.RuleReplace, Mask: ".*", Sources: []string{"aa"}, Target: "cc", Replacement: "$0"}},
		{{Kind: api.RuleKeep}}, {{Kind: api.RuleDrop, Mask: "none"}},
		{{Kind: api.RuleShare, Target: "cc", Modulus: 9}},
		{{Kind: api.RuleMap, Mask: "none"}}, {{Kind: api.RuleMap, Mask: "aa", Replacement: "cc"}},
		{{Kind: api.RuleLose, Mask: "none"}}, {{Kind: api.RuleHold, Mask: ".*"}},
	} {
		l := of("aa", "xx", "bb", "yy")
		m, stay, e := relabel.Apply(l, rules)
		if len(m) < 2 || !stay || e != api.OK {
			t.Fatalf("%+v: it is %q %v %d", rules, m, stay, e)
		}
		for _, x := range m {
			for _, y := range l {
				if lies(x.Name, y.Name) || lies(x.Value, y.Value) {
					t.Fatalf("%+v: a text of %q is not new", rules, x)
				}
			}
			for _, y := range rules {
				if lies(x.Name, y.Target) || lies(x.Value, y.Replacement) {
					t.Fatalf("%+v: a text of %q is the rule's", rules, x)
				}
			}
		}
		m[0].Value, m[1].Name = "other", "other"
		if !same(l, of("aa", "xx", "bb", "yy")) {
			t.Fatalf("%+v: an answer shares memory with what was handed in: %q", rules, l)
		}
	}
}
