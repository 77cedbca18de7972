package press

// alike is how many bytes must be the same for them to be looked for: an element that takes bytes from back has three bytes at most here, so that each makes the text shorter.
const alike = 4

// mostAgain is how many bytes from back one element may tell.
const mostAgain = 64

// packer of a text: where each four bytes stood last, of those noted so far; and what is packed so far.
type packer struct {
	text   string
	stood  map[string]int
	packed []byte
}

func (p *packer) all() {
	done := 0 // what is ahead of it is packed
	for at := 0; at+alike <= len(p.text); {
		from, met := p.stood[p.text[at:at+alike]]
		if !met {
			p.note(at, at+1)
			at++
			continue
		}
		n := p.same(from, at)
		p.plain(p.text[done:at])
		p.again(n, at-from)
		p.note(at, at+n)
		at += n
		done = at
	}
	p.plain(p.text[done:])
}

// note what stands at each place from one on, up to another.
func (p *packer) note(from, to int) {
	for at := from; at < to && at+alike <= len(p.text); at++ {
		p.stood[p.text[at:at+alike]] = at
	}
}

// same: how many bytes from one place on are as those from a later one on.
func (p *packer) same(from, at int) int {
	n := 0
	for at+n < len(p.text) && p.text[from+n] == p.text[at+n] {
		n++
	}
	return n
}

// plain makes an element of bytes as they are. A text has no more than MaxText bytes, so how many there are has two bytes at most.
func (p *packer) plain(s string) {
	if len(s) == 0 {
		return
	}
	n := len(s) - 1
	switch {
	case n < 60:
		p.packed = append(p.packed, byte(n<<2|kindPlain))
	case n < 256:
		p.packed = append(p.packed, 60<<2|kindPlain, byte(n))
	default:
		p.packed = append(p.packed, 61<<2|kindPlain, byte(n), byte(n>>8))
	}
	p.packed = append(p.packed, s...)
}

// again makes elements of bytes that are there already. (How far back has two bytes at most, likewise.)
func (p *packer) again(n, back int) {
	for n > 0 {
		k := min(n, mostAgain)
		if k >= leastNear && k <= mostNear && back <= backNear {
			p.packed = append(p.packed, byte(back>>8<<5|(k-leastNear)<<2|kindNear), byte(back))
		} else {
			p.packed = append(p.packed, byte((k-1)<<2|kindFar), byte(back), byte(back>>8))
		}
		n -= k
	}
}
