// Package line: lines of a text, read from piece to piece: blanks, names, words, and labels. What a line cannot go on with is a fault.
package line

import (
	"strings"

	"gleaner/api"
	"gleaner/labels"
)

// Line of a text: the text up to the line's end, where the line begins in it, and how far it is read. What it reads is at places of the text, not of the line.
type Line struct {
	text     string
	from, at int
}

// Each hands the lines of a text to a function, in order, up to the first one with a fault, and tells that: ErrMany at 0, if the text has more than MaxText bytes, or what gave up. Any other panic goes on: it would be a fault of the program, and is not to look like one of the text.
func Each(text string, read func(l *Line)) (f api.Fault) {
	defer func() {
		if r := recover(); r != nil {
			wrong, gaveUp := r.(api.Fault)
			if !gaveUp {
				panic(r)
			}
			f = wrong
		}
	}()
	if len(text) > api.MaxText {
		GiveUp(api.ErrMany, 0)
	}
	for from := 0; from < len(text); {
		end := len(text)
		if n := strings.IndexByte(text[from:], '\n'); n >= 0 {
			end = from + n
		}
		read(&Line{text: text[:end], from: from, at: from})
		from = end + 1
	}
	return api.Fault{}
}

// GiveUp the text, at a byte of it. It is for what Each hands a line to, which comes to no end then.
func GiveUp(e api.Errno, at int) {
	panic(api.Fault{Err: e, At: at})
}

// First byte of the line.
func (l *Line) First() int { return l.from }

// At which byte is what comes?
func (l *Line) At() int { return l.at }

// Ended: is all of the line read?
func (l *Line) Ended() bool { return l.at == len(l.text) }

// End: all of the line must be read.
func (l *Line) End() {
	if !l.Ended() {
		l.giveUp()
	}
}

// Blanks are skipped; were there any?
func (l *Line) Blanks() bool {
	from := l.at
	for l.Skip(' ') || l.Skip('\t') {
	}
	return l.at > from
}

// Skip a byte, if it comes; did it?
func (l *Line) Skip(c byte) bool {
	if l.Ended() || l.text[l.at] != c {
		return false
	}
	l.at++
	return true
}

// Must: a byte must come.
func (l *Line) Must(c byte) {
	if !l.Skip(c) {
		l.giveUp()
	}
}

// Word up to a blank, or the line's end: any bytes, or none.
func (l *Line) Word() string {
	from := l.at
	for !l.Ended() && l.text[l.at] != ' ' && l.text[l.at] != '\t' {
		l.at++
	}
	return l.text[from:l.at]
}

// Name must come; it goes on as long as it is one.
func (l *Line) Name() string {
	from := l.at
	for l.named(from) {
		l.at++
	}
	if l.at == from {
		l.giveUp()
	}
	return l.text[from:l.at]
}

// named: is what was read from some byte on a name, with the byte that comes?
func (l *Line) named(from int) bool {
	return !l.Ended() && labels.IsName(l.text[from:l.at+1])
}

func (l *Line) giveUp() {
	GiveUp(api.ErrForm, l.at)
}
