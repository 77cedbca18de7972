package log

import "gleaner/api"

// reader of a log, and how far it is read.
type reader struct {
	log string
	at  int
}

// record: the next one, if it is whole.
func (r *reader) record() (string, bool) {
	var made []byte
	for first := true; ; first = false {
		kind, s, there := r.part()
		if !there || !mayCome(kind, first) {
			return "", false
		}
		made = append(made, s...)
		if ends(kind) {
			return string(made), true
		}
	}
}

// part that comes, behind noughts where no head fits: its kind, whichever it is, and its bytes, if all of it is there.
func (r *reader) part() (byte, string, bool) {
	if !r.noughts() {
		return 0, "", false
	}
	// Asked for ahead of the head: behind one that ends with the page there would be all of the next page.
	end := min(r.at+left(r.at), len(r.log))
	if end-r.at < api.HeadSize {
		return 0, "", false
	}
	kind := byte(r.number(1))
	n := int(r.number(2))
	sum := r.number(4)
	if n > end-r.at {
		return 0, "", false
	}
	s := r.take(n)
	return kind, s, Check(s) == sum
}

// noughts up to the page's end are passed over, if no head fits there. Are they noughts, and all there?
func (r *reader) noughts() bool {
	n := left(r.at)
	if n >= api.HeadSize {
		return true
	}
	if n > len(r.log)-r.at {
		return false
	}
	return r.take(n) == string(make([]byte, n))
}

// take the next n bytes.
func (r *reader) take(n int) string {
	r.at += n
	return r.log[r.at-n : r.at]
}

// number of the next size bytes, the lowest first.
func (r *reader) number(size int) uint32 {
	s := r.take(size)
	n := uint32(0)
	for i := size - 1; i >= 0; i-- {
		n = n<<8 | uint32(s[i])
	}
	return n
}

// mayCome: may a part of this kind come, as the first one of a record, or as one behind it?
func mayCome(kind byte, first bool) bool {
	switch kind {
	case api.PartWhole, api.PartFirst:
		return first
	case api.PartNext, api.PartLast:
		return !first
	}
	return false
}

// ends: is a part of this kind the last one of its record?
func ends(kind byte) bool {
	return kind == api.PartWhole || kind == api.PartLast
}
