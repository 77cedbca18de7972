// Package wire: how series are packed: see doc/01-wire.md.
package wire

import "gleaner/api"

// maxNumber is how many bytes a number of 64 bits has at most.
const maxNumber = 10

// Number as bytes.
func Number(n uint64) string {
	var b []byte
	for n >= 128 {
		b = append(b, byte(n)|128)
		n >>= 7
	}
	return string(append(b, byte(n)))
}

// ReadNumber at a text's beginning.
func ReadNumber(s string) (uint64, int, api.Errno) {
	size := numberSize(s)
	// Whether the text ends within the number comes first, however long the number is by then.
	if size == 0 {
		return 0, 0, api.ErrForm
	}
	if size > maxNumber || size == maxNumber && s[size-1] > 1 {
		return 0, 0, api.ErrRange
	}
	var n uint64
	for i := size - 1; i >= 0; i-- {
		n = n<<7 | uint64(s[i]&127)
	}
	return n, size, api.OK
}

// numberSize: how many bytes the number at a text's beginning has; 0, if the text ends within it.
func numberSize(s string) int {
	for i := 0; i < len(s); i++ {
		if s[i] < 128 {
			return i + 1
		}
	}
	return 0
}

// Write series.
func Write(l []api.Series) (string, api.Errno) {
	var w writer
	e := attempt(func() {
		checkCounts(l)
		checkTimes(l)
		w.series(l)
	})
	if e != api.OK {
		return "", e
	}
	return string(w.text), api.OK
}

// Read series.
func Read(s string) ([]api.Series, api.Errno) {
	if len(s) > api.MaxText {
		return nil, api.ErrMany
	}
	var l []api.Series
	e := attempt(func() {
		l = readAll(s)
		// Form comes ahead of counts, and these of times: so nothing is counted until all is read.
		checkCounts(l)
		checkTimes(l)
	})
	if e != api.OK {
		return nil, e
	}
	return l, api.OK
}

// attempt does some work, and tells the error with which that gave up. Any other panic goes on: it would be a fault of the program, and is not to look like one of what was handed in.
func attempt(work func()) (e api.Errno) {
	defer func() {
		if r := recover(); r != nil {
			wrong, gaveUp := r.(api.Errno)
			if !gaveUp {
				panic(r)
			}
			e = wrong
		}
	}()
	work()
	return api.OK
}
