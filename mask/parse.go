package mask

import (
	"strings"

	"gleaner/api"
)

// Kinds of steps. One goes on at the step behind it, if nothing else is said.
const (
	stepTake = 1 // takes a byte of a set
	stepMark = 2 // a group begins or ends here
	stepFork = 3 // goes on at the first of its ways, or at the next one, if no way there takes the whole text, and so on
	stepEnd  = 4 // the mask is gone through
)

// step of a mask; slot is twice the number of a group, and 1 more at its end.
type step struct {
	kind int
	set  byteSet
	slot int
	ways []int
}

// program is what a mask asks for, from its first step on, and how many groups it has.
type program struct {
	steps  []step
	groups int
}

// parser of a mask: how far it has come, and what it has made so far.
type parser struct {
	mask string
	at   int
	program
}

// parse a mask. A panic that is no fault goes on: it would be one of the program, and is not to look like one of the mask.
func parse(mask string) (made program, f api.Fault) {
	defer func() {
		if r := recover(); r != nil {
			wrong, gaveUp := r.(api.Fault)
			if !gaveUp {
				panic(r)
			}
			f = wrong
		}
	}()
	p := parser{mask: mask}
	p.whole()
	return p.program, api.Fault{}
}

// giveUp at the byte that comes.
func (p *parser) giveUp(e api.Errno) {
	panic(api.Fault{Err: e, At: p.at})
}

func (p *parser) whole() {
	if len(p.mask) > api.MaxMask {
		p.giveUp(api.ErrMany)
	}
	p.rows()
	if p.at < len(p.mask) {
		p.giveUp(api.ErrForm)
	}
	p.add(step{kind: stepEnd})
}

// add a step, and tell where it stands.
func (p *parser) add(s step) int {
	p.steps = append(p.steps, s)
	return len(p.steps) - 1
}

// way: a fork may go on at another step, if none of those named so far does.
func (p *parser) way(fork, to int) {
	p.steps[fork].ways = append(p.steps[fork].ways, to)
}

// comes: is the byte that comes one of these?
func (p *parser) comes(these string) bool {
	return p.at < len(p.mask) && strings.IndexByte(these, p.mask[p.at]) >= 0
}

// skip the byte that comes, if it is this one.
func (p *parser) skip(this string) bool {
	if !p.comes(this) {
		return false
	}
	p.at++
	return true
}

// rows up to the mask's end, or to a `)`; it tells whether they may take nothing, as do the others.
func (p *parser) rows() bool {
	fork := p.add(step{kind: stepFork})
	var ends []int
	nothing := false
	for more := true; more; more = p.skip("|") {
		p.way(fork, len(p.steps))
		if p.row() {
			nothing = true
		}
		ends = append(ends, p.add(step{kind: stepFork}))
	}
	for _, end := range ends {
		p.way(end, len(p.steps))
	}
	return nothing
}

func (p *parser) row() bool {
	nothing := true
	for p.at < len(p.mask) && !p.comes("|)") {
		if !p.piece() {
			nothing = false
		}
	}
	return nothing
}

// piece: a fork stands ahead of it, because only what is behind it tells whether it may be passed by.
func (p *parser) piece() bool {
	fork := p.add(step{kind: stepFork})
	body := len(p.steps)
	p.way(fork, body)
	nothing := p.atom()
	again, passed := p.comes("*+"), p.comes("*?")
	if again {
		if nothing {
			p.giveUp(api.ErrState)
		}
		end := p.add(step{kind: stepFork})
		p.way(end, body)
		p.way(end, len(p.steps))
	}
	if passed {
		p.way(fork, len(p.steps))
	}
	if again || passed {
		p.at++
	}
	return nothing || passed
}

func (p *parser) atom() bool {
	switch c := p.mask[p.at]; c {
	case '(':
		return p.group()
	case '[':
		p.take(p.brackets())
	case '.':
		p.at++
		p.take(span(0, 255))
	case '\\':
		p.at++
		p.take(p.escaped())
	case '*', '+', '?', ']':
		p.giveUp(api.ErrForm)
	default:
		p.at++
		p.take(span(c, c))
	}
	return false
}

func (p *parser) take(s byteSet) {
	p.add(step{kind: stepTake, set: s})
}

func (p *parser) group() bool {
	if p.groups == api.MaxGroups {
		p.giveUp(api.ErrMany)
	}
	p.at++
	slot := 2 * p.groups
	p.groups++
	p.add(step{kind: stepMark, slot: slot})
	nothing := p.rows()
	if !p.skip(")") {
		p.giveUp(api.ErrForm)
	}
	p.add(step{kind: stepMark, slot: slot + 1})
	return nothing
}

// escaped: the byte behind a `\`.
func (p *parser) escaped() byteSet {
	if p.at == len(p.mask) || isLetter(p.mask[p.at]) || isDigit(p.mask[p.at]) {
		p.giveUp(api.ErrForm)
	}
	c := p.mask[p.at]
	p.at++
	return span(c, c)
}

// brackets, and what is between them.
func (p *parser) brackets() byteSet {
	p.at++
	not := p.skip("^")
	s := p.span()
	for !p.skip("]") {
		s = both(s, p.span())
	}
	if not {
		return allBut(s)
	}
	return s
}

// span: a byte between brackets, or two with a `-` between them.
func (p *parser) span() byteSet {
	first := p.bracketed()
	p.at++
	if !p.skip("-") {
		return span(first, first)
	}
	last := p.bracketed()
	if last < first {
		p.giveUp(api.ErrRange)
	}
	p.at++
	return span(first, last)
}

// bracketed: the byte that comes, if it may stand between brackets. It is not passed yet: it may be wrong for another reason.
func (p *parser) bracketed() byte {
	if p.at == len(p.mask) || p.comes(`[]\^-`) {
		p.giveUp(api.ErrForm)
	}
	return p.mask[p.at]
}

func isLetter(c byte) bool {
	return c >= 'a' && c <= 'z' || c >= 'A' && c <= 'Z'
}

func isDigit(c byte) bool {
	return c >= '0' && c <= '9'
}
