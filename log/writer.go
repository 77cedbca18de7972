package log

import "gleaner/api"

// writer of parts: how many bytes stand ahead of what it makes, and that.
type writer struct {
	from int
	made []byte
}

// at which byte of the log it is.
func (w *writer) at() int { return w.from + len(w.made) }

// record in as many parts as it takes, one at least.
func (w *writer) record(s string) {
	for first := true; ; first = false {
		w.noughts()
		n := min(len(s), left(w.at())-api.HeadSize)
		last := n == len(s)
		w.part(kindOf(first, last), s[:n])
		if last {
			return
		}
		s = s[n:]
	}
}

// noughts up to the page's end, if no head fits there.
func (w *writer) noughts() {
	n := left(w.at())
	if n < api.HeadSize {
		w.made = append(w.made, make([]byte, n)...)
	}
}

func (w *writer) part(kind byte, s string) {
	n, sum := len(s), Check(s)
	w.made = append(w.made, kind, byte(n), byte(n>>8), byte(sum), byte(sum>>8), byte(sum>>16), byte(sum>>24))
	w.made = append(w.made, s...)
}

// kindOf a part, by whether it is the first one of its record, and the last one.
func kindOf(first, last bool) byte {
	switch {
	case first && last:
		return api.PartWhole
	case first:
		return api.PartFirst
	case last:
		return api.PartLast
	}
	return api.PartNext
}

// left: how many bytes a page has left at a byte of a log: from 1 on, for where a page is full the next one begins.
func left(at int) int {
	return api.PageSize - at%api.PageSize
}
