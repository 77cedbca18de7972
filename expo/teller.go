package expo

import (
	"gleaner/api"
	"gleaner/labels"
	"gleaner/line"
)

// ownName is the label that has a reading's name.
const ownName = "__name__"

// teller of a text's lines: the readings so far, the names that they have, and those whose types were told.
type teller struct {
	readings    []api.Reading
	read, typed map[string]struct{}
}

func (t *teller) line(l *line.Line) {
	l.Blanks()
	switch {
	case l.Ended():
	case l.Skip('#'):
		t.remark(l)
	default:
		t.reading(l)
	}
}

func (t *teller) reading(l *line.Line) {
	name := l.Name()
	r := api.Reading{Labels: readLabels(l, name)}
	r.Bits = readWord(l, Float)
	if l.Blanks() && !l.Ended() {
		r.Timed, r.Time = true, readWord(l, time)
	}
	l.Blanks()
	l.End()
	made, e := labels.Make(r.Labels)
	if e != api.OK {
		line.GiveUp(e, l.First())
	}
	if len(t.readings) == api.MaxReadings {
		line.GiveUp(api.ErrMany, l.First())
	}
	r.Labels = made
	t.readings = append(t.readings, r)
	t.read[name] = struct{}{}
}

// readLabels of a reading, in the order in which they are told, with its name, and all up to the number.
func readLabels(l *line.Line, name string) []api.Label {
	made := []api.Label{{Name: ownName, Value: name}}
	apart := l.Blanks()
	if l.Skip('{') {
		made = append(made, l.Labels()...)
		l.Must('}')
		l.Blanks()
	} else if !apart {
		line.GiveUp(api.ErrForm, l.At())
	}
	return made
}

// readWord: what a word is as a number, or a time. If it is none, that is so from its beginning on.
func readWord[T uint64 | int](l *line.Line, as func(word string) (T, api.Errno)) T {
	at := l.At()
	n, e := as(l.Word())
	if e != api.OK {
		line.GiveUp(e, at)
	}
	return n
}

// remark: a line behind its `#`. It tells a type, or nothing.
func (t *teller) remark(l *line.Line) {
	l.Blanks()
	if l.Word() != "TYPE" || !l.Blanks() {
		return
	}
	name := l.Word()
	l.Blanks()
	kind := l.Word()
	l.Blanks()
	if !labels.IsName(name) || !isType(kind) || !l.Ended() {
		line.GiveUp(api.ErrForm, l.First())
	}
	if _, there := t.typed[name]; there {
		line.GiveUp(api.ErrTwice, l.First())
	}
	if _, there := t.read[name]; there {
		line.GiveUp(api.ErrState, l.First())
	}
	t.typed[name] = struct{}{}
}

func isType(s string) bool {
	switch s {
	case "counter", "gauge", "histogram", "summary", "untyped":
		return true
	}
	return false
}
