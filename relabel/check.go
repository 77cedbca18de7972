package relabel

import (
	"gleaner/api"
	"gleaner/labels"
	"gleaner/mask"
)

// checkAll: what is wrong ahead of anything's being done.
func checkAll(l []api.Label, rules []api.Rule) api.Errno {
	if len(rules) > api.MaxRules {
		return api.ErrMany
	}
	if e := labels.Check(l); e != api.OK {
		return e
	}
	for _, r := range rules {
		if e := Check(r); e != api.OK {
			return e
		}
	}
	return api.OK
}

// checkParts: what is wrong with a rule of any kind.
func checkParts(r api.Rule) api.Errno {
	if len(r.Sources) > api.MaxLabels || max(len(r.Between), len(r.Replacement), len(r.Target)) > api.MaxValue {
		return api.ErrMany
	}
	for _, name := range r.Sources {
		if !labels.IsName(name) {
			return api.ErrForm
		}
	}
	_, f := mask.Check(r.Mask)
	return f.Err
}

// checkByKind: what is wrong with what only rules of its kind ask for.
func checkByKind(r api.Rule) api.Errno {
	switch r.Kind {
	case api.RuleReplace:
		if !labels.IsName(r.Target) || !isTemplate(r.Replacement) {
			return api.ErrForm
		}
	case api.RuleShare:
		if !labels.IsName(r.Target) {
			return api.ErrForm
		}
		if r.Modulus < 1 || r.Modulus > api.MaxModulus {
			return api.ErrRange
		}
	case api.RuleMap:
		if !isTemplate(r.Replacement) {
			return api.ErrForm
		}
	}
	return api.OK
}

// isTemplate: what a template is does not hang on what it is filled with.
func isTemplate(s string) bool {
	_, e := mask.Expand(s, "", nil)
	return e == api.OK
}
