package mask

// byteSet is a set of bytes, a bit for each of the 256.
type byteSet [4]uint64

// allBut: the bytes that are not in a set.
func allBut(s byteSet) byteSet {
	for i := range s {
		s[i] = ^s[i]
	}
	return s
}

// span: the bytes from one to another.
func span(first, last byte) byteSet {
	var s byteSet
	for c := int(first); c <= int(last); c++ {
		s[c/64] |= 1 << (c % 64)
	}
	return s
}

// both: the bytes that are in one of two sets.
func both(s, t byteSet) byteSet {
	for i := range s {
		s[i] |= t[i]
	}
	return s
}

func (s byteSet) has(c byte) bool {
	return s[c/64]>>(c%64)&1 == 1
}
