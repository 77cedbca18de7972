package mask

import "strings"

// walk of a mask's steps along a text: which steps were tried at which places of it; where the groups begin and end, -1 if nowhere.
type walk struct {
	steps []step
	text  string
	tried []bool
	marks []int
}

func newWalk(p program, text string) *walk {
	marks := make([]int, 2*p.groups)
	for i := range marks {
		marks[i] = -1
	}
	return &walk{steps: p.steps, text: text, tried: make([]bool, len(p.steps)*(len(text)+1)), marks: marks}
}

// from: does a way lead on from a step, at a place of the text, that takes all that is left? The marks tell of the first one.
//
// Whether one does hangs on the step and the place alone, so what was tried there without success is not tried again: otherwise there may be more ways than can be gone.
func (w *walk) from(at, place int) bool {
	seen := at*(len(w.text)+1) + place
	if w.tried[seen] {
		return false
	}
	w.tried[seen] = true
	s := &w.steps[at]
	switch s.kind {
	case stepTake:
		return place < len(w.text) && s.set.has(w.text[place]) && w.from(at+1, place+1)
	case stepMark:
		if !w.from(at+1, place) {
			return false
		}
		w.mark(s.slot, place)
		return true
	case stepFork:
		for _, to := range s.ways {
			if w.from(to, place) {
				return true
			}
		}
		return false
	}
	return place == len(w.text)
}

// mark a place. The way is known by then, and is told from its end on: so the last round of a group comes first, and stays.
func (w *walk) mark(slot, place int) {
	if w.marks[slot] < 0 {
		w.marks[slot] = place
	}
}

// groups: what they took.
func (w *walk) groups() []string {
	var l []string
	for i := 0; i < len(w.marks); i += 2 {
		took := ""
		if w.marks[i] >= 0 {
			// A piece of the text would keep all of it.
			took = strings.Clone(w.text[w.marks[i]:w.marks[i+1]])
		}
		l = append(l, took)
	}
	return l
}
