package relabel

import (
	"strconv"
	"strings"

	"gleaner/api"
	"gleaner/labels"
	"gleaner/mask"
)

// deed is what a rule does to labels, with its Source: the labels then, and whether they stay at all.
type deed func(r api.Rule, l []api.Label, source string) ([]api.Label, bool, api.Errno)

// deeds of rules, by their kinds.
func deeds() map[int]deed {
	return map[int]deed{
		api.RuleReplace: replace,
		api.RuleKeep: func(r api.Rule, l []api.Label, source string) ([]api.Label, bool, api.Errno) {
			return l, like(r.Mask, source), api.OK
		},
		api.RuleDrop: func(r api.Rule, l []api.Label, source string) ([]api.Label, bool, api.Errno) {
			return l, !like(r.Mask, source), api.OK
		},
		api.RuleShare: share,
		api.RuleMap:   rename,
		api.RuleLose: func(r api.Rule, l []api.Label, _ string) ([]api.Label, bool, api.Errno) {
			return those(l, func(name string) bool { return !like(r.Mask, name) }), true, api.OK
		},
		api.RuleHold: func(r api.Rule, l []api.Label, _ string) ([]api.Label, bool, api.Errno) {
			return those(l, func(name string) bool { return like(r.Mask, name) }), true, api.OK
		},
	}
}

func replace(r api.Rule, l []api.Label, source string) ([]api.Label, bool, api.Errno) {
	fits, groups, _ := mask.Match(r.Mask, source)
	if !fits {
		return l, true, api.OK
	}
	// The first bytes of what is made hang on the first bytes of each group alone: cut ahead of it, they never make more than Expand can.
	for i := range groups {
		groups[i] = cut(groups[i])
	}
	value, _ := mask.Expand(r.Replacement, cut(source), groups)
	made, e := labels.With(l, r.Target, cut(value))
	return made, true, e
}

func share(r api.Rule, l []api.Label, source string) ([]api.Label, bool, api.Errno) {
	var sum uint64
	if source != "" {
		sum, _ = labels.Sum([]api.Label{{Name: "x", Value: cut(source)}})
	}
	made, e := labels.With(l, r.Target, strconv.FormatUint(sum%uint64(r.Modulus), 10))
	return made, true, e
}

func rename(r api.Rule, l []api.Label, _ string) ([]api.Label, bool, api.Errno) {
	made := l
	for _, x := range l {
		fits, groups, _ := mask.Match(r.Mask, x.Name)
		if !fits {
			continue
		}
		name, _ := mask.Expand(r.Replacement, x.Name, groups)
		if !labels.IsName(name) {
			continue
		}
		var e api.Errno
		if made, e = labels.With(made, name, x.Value); e != api.OK {
			return nil, false, e
		}
	}
	return made, true, api.OK
}

// those labels whose names a function takes.
func those(l []api.Label, takes func(name string) bool) []api.Label {
	var made []api.Label
	for _, x := range l {
		if takes(x.Name) {
			made = append(made, x)
		}
	}
	return made
}

// source of a rule.
func source(r api.Rule, l []api.Label) string {
	var values []string
	for _, name := range r.Sources {
		value, _ := labels.Get(l, name)
		values = append(values, value)
	}
	return strings.Join(values, r.Between)
}

// like: both the mask and how long the text is were looked at ahead of it, so there is no error.
func like(m, text string) bool {
	fits, _, _ := mask.Match(m, text)
	return fits
}

// cut to as many bytes as a value may have.
func cut(s string) string {
	return s[:min(len(s), api.MaxValue)]
}
