package press

import "gleaner/api"

// unpacker of a text: what is left of it; how many bytes it is to make, and those it made.
type unpacker struct {
	rest string
	told int
	made []byte
}

// all elements, and the error with which one of them gave up. Any other panic goes on: it would be a fault of the program, and is not to look like one of the text.
func (u *unpacker) all() (e api.Errno) {
	defer func() {
		if r := recover(); r != nil {
			wrong, gaveUp := r.(api.Errno)
			if !gaveUp {
				panic(r)
			}
			e = wrong
		}
	}()
	for len(u.rest) > 0 {
		u.element()
	}
	if len(u.made) < u.told {
		panic(api.ErrForm)
	}
	return api.OK
}

func (u *unpacker) element() {
	head := u.number(1)
	upper := head >> 2
	switch head & 3 {
	case kindPlain:
		if upper >= 60 {
			upper = u.number(upper - 59)
		}
		u.plain(upper + 1)
	case kindNear:
		u.again(upper&7+leastNear, head>>5<<8|u.number(1))
	case kindFar:
		u.again(upper+1, u.number(2))
	case kindFarer:
		u.again(upper+1, u.number(4))
	}
}

// take the next n bytes.
func (u *unpacker) take(n int) string {
	if n > len(u.rest) {
		panic(api.ErrForm)
	}
	s := u.rest[:n]
	u.rest = u.rest[n:]
	return s
}

// number of the next size bytes, the lowest first.
func (u *unpacker) number(size int) int {
	s := u.take(size)
	n := 0
	for i := size - 1; i >= 0; i-- {
		n = n<<8 | int(s[i])
	}
	return n
}

func (u *unpacker) plain(n int) {
	u.room(n)
	u.made = append(u.made, u.take(n)...)
}

func (u *unpacker) again(n, back int) {
	u.room(n)
	if back < 1 || back > len(u.made) {
		panic(api.ErrForm)
	}
	// One by one: those that were just taken may be among them.
	for range n {
		u.made = append(u.made, u.made[len(u.made)-back])
	}
}

// room for n more bytes must be there: it is asked for ahead of making them, so that nothing is made beyond what was told.
func (u *unpacker) room(n int) {
	if n > u.told-len(u.made) {
		panic(api.ErrForm)
	}
}
