package scrape

import (
	"gleaner/api"
	"gleaner/expo"
	"gleaner/labels"
	"gleaner/relabel"
)

// failure is what a scrape gives up with that fails.
type failure struct{}

// failIf gives up the scrape, if something is wrong.
func failIf(wrong bool) {
	if wrong {
		panic(failure{})
	}
}

// attempt does some work; did that give up? Any other panic goes on: it would be a fault of the program, and is not to look like a scrape that fails.
func attempt(work func()) (fails bool) {
	defer func() {
		if r := recover(); r != nil {
			if _, gaveUp := r.(failure); !gaveUp {
				panic(r)
			}
			fails = true
		}
	}()
	work()
	return false
}

// eachReading that a target told is handed to a function, in order.
func eachReading(s api.Scrape, take func(r api.Reading)) {
	failIf(!s.Told || len(s.Body) > s.Limits.Bytes)
	readings, f := expo.Parse(s.Body)
	failIf(f.Err != api.OK || len(readings) > s.Limits.Readings)
	for _, r := range readings {
		take(r)
	}
}

// changed: the labels of a reading, with the target's over these, behind the rules; none, if the reading is dropped.
func changed(l, target []api.Label, rules []api.Rule) []api.Label {
	for _, x := range target {
		with, e := labels.With(l, x.Name, x.Value)
		failIf(e != api.OK)
		l = with
	}
	made, _, e := relabel.Apply(l, rules)
	failIf(e != api.OK)
	return made
}

// timeOf a reading: its own, if it has one.
func timeOf(r api.Reading, now int) int {
	if r.Timed {
		return r.Time
	}
	return now
}
