package labels

import (
	"cmp"
	"slices"
	"strings"

	"gleaner/api"
)

// What a sum is begun with, is multiplied by, and has behind each text.
const (
	sumOfNone = 14695981039346656037
	sumTimes  = 1099511628211
	sumBehind = 255
)

// sorted: a new list of labels, and of some more, by name, without those whose value is empty.
func sorted(l []api.Label, more ...api.Label) []api.Label {
	var made []api.Label
	for _, x := range slices.Concat(l, more) {
		if len(x.Value) > 0 {
			// Cloned, because an answer shares no memory with what was handed in.
			made = append(made, api.Label{Name: strings.Clone(x.Name), Value: strings.Clone(x.Value)})
		}
	}
	slices.SortFunc(made, func(x, y api.Label) int { return cmp.Compare(x.Name, y.Name) })
	return made
}

// without: a new list of labels but the one by a name.
func without(l []api.Label, name string) []api.Label {
	var left []api.Label
	for _, x := range l {
		if x.Name != name {
			left = append(left, x)
		}
	}
	return left
}

// escaped: a value as it stands in a text.
func escaped(s string) string {
	var b []byte
	for i := range len(s) {
		switch s[i] {
		case '\\', '"':
			b = append(b, '\\', s[i])
		case '\n':
			b = append(b, '\\', 'n')
		default:
			b = append(b, s[i])
		}
	}
	return string(b)
}

// summed: a sum with the bytes of a text in it, and with what stands behind each.
func summed(sum uint64, s string) uint64 {
	for i := range len(s) {
		sum = (sum ^ uint64(s[i])) * sumTimes
	}
	return (sum ^ sumBehind) * sumTimes
}
