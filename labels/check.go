package labels

import "gleaner/api"

// isLetter: what a name may begin with is one, `_` too.
func isLetter(c byte) bool {
	return c >= 'a' && c <= 'z' || c >= 'A' && c <= 'Z' || c == '_'
}

func isDigit(c byte) bool {
	return c >= '0' && c <= '9'
}

// checkLists: what is wrong with the first list that is not right.
func checkLists(lists ...[]api.Label) api.Errno {
	for _, l := range lists {
		if e := Check(l); e != api.OK {
			return e
		}
	}
	return api.OK
}

// checkEach: what is wrong with how many labels there are, or with one by itself, if a value has so many bytes at least.
func checkEach(l []api.Label, least int) api.Errno {
	if len(l) > api.MaxLabels {
		return api.ErrMany
	}
	for _, x := range l {
		if !IsName(x.Name) || len(x.Value) < least {
			return api.ErrForm
		}
		if len(x.Value) > api.MaxValue {
			return api.ErrMany
		}
	}
	return api.OK
}

// twice: have two labels, wherever they stand, one name?
func twice(l []api.Label) bool {
	met := map[string]struct{}{}
	for _, x := range l {
		if _, there := met[x.Name]; there {
			return true
		}
		met[x.Name] = struct{}{}
	}
	return false
}

func rise(l []api.Label) bool {
	for i := 1; i < len(l); i++ {
		if l[i-1].Name >= l[i].Name {
			return false
		}
	}
	return true
}
