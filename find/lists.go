package find

import (
	"slices"

	"gleaner/api"
	"gleaner/labels"
)

// checkLists: what is wrong with how many targets a list has, or with the first target that is not right.
func checkLists(lists ...[]api.Target) api.Errno {
	for _, l := range lists {
		if len(l) > api.MaxTargets {
			return api.ErrMany
		}
	}
	for _, l := range lists {
		for _, t := range l {
			if e := labels.Check(t.Labels); e != api.OK {
				return e
			}
		}
	}
	return api.OK
}

// compare targets that are right: their texts would not do, for one without labels has that of another one.
func compare(a, b api.Target) int {
	n, _ := labels.Compare(a.Labels, b.Labels)
	return n
}

// sorted: a new list of targets that are right, which shares no memory with them, in their order.
func sorted(l []api.Target) []api.Target {
	var made []api.Target
	for _, t := range l {
		copied, _ := labels.Make(t.Labels)
		made = append(made, api.Target{Labels: copied})
	}
	slices.SortFunc(made, compare)
	return made
}

// twice: are two targets of a sorted list the same?
func twice(l []api.Target) bool {
	for i := 1; i < len(l); i++ {
		if compare(l[i-1], l[i]) == 0 {
			return true
		}
	}
	return false
}

// parted: of two lists that rise what the first one alone has, what both have, and what the second one alone has.
func parted(a, b []api.Target) (first, both, second []api.Target) {
	for len(a) > 0 && len(b) > 0 {
		n := compare(a[0], b[0])
		switch {
		case n < 0:
			first = append(first, a[0])
		case n > 0:
			second = append(second, b[0])
		default:
			both = append(both, a[0])
		}
		if n <= 0 {
			a = a[1:]
		}
		if n >= 0 {
			b = b[1:]
		}
	}
	return append(first, a...), both, append(second, b...)
}
