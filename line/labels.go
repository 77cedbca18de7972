package line

import "gleaner/api"

// Labels, or none, with `,` between them and perhaps behind the last one, and blanks. They end where no name comes: what must come there then is for the caller to say.
func (l *Line) Labels() []api.Label {
	var made []api.Label
	l.Blanks()
	for l.named(l.at) {
		made = append(made, l.label())
		if !l.Skip(',') {
			break
		}
		l.Blanks()
	}
	return made
}

// label, and the blanks behind it.
func (l *Line) label() api.Label {
	name := l.Name()
	l.Blanks()
	l.Must('=')
	l.Blanks()
	value := l.value()
	l.Blanks()
	return api.Label{Name: name, Value: value}
}

func (l *Line) value() string {
	l.Must('"')
	var made []byte
	for !l.Skip('"') {
		made = append(made, l.valueByte())
	}
	return string(made)
}

// valueByte: a byte of a value, which may be told by two.
func (l *Line) valueByte() byte {
	if !l.Skip('\\') {
		return l.next()
	}
	at := l.at
	switch c := l.next(); c {
	case '\\', '"':
		return c
	case 'n':
		return '\n'
	}
	l.at = at
	l.giveUp()
	return 0
}

// next byte, whichever it is: there must be one.
func (l *Line) next() byte {
	if l.Ended() {
		l.giveUp()
	}
	l.at++
	return l.text[l.at-1]
}
