// Package press: shorter texts: see doc/02-press.md.
package press

import (
	"gleaner/api"
	"gleaner/wire"
)

// Kinds of elements, by the lowest two bits of their first bytes.
const (
	kindPlain = 0 // bytes as they are
	kindNear  = 1 // bytes that are there already, how far back in three bits and a byte
	kindFar   = 2 // likewise, in two bytes
	kindFarer = 3 // likewise, in four bytes
)

// Bounds of an element of kindNear: how many bytes it tells, and how far back.
const (
	leastNear = 4
	mostNear  = 11
	backNear  = 2047
)

// Pack a text: at each place the last one at which the same four bytes stood is looked at.
func Pack(s string) (string, api.Errno) {
	if len(s) > api.MaxText {
		return "", api.ErrMany
	}
	p := packer{text: s, stood: map[string]int{}, packed: []byte(wire.Number(uint64(len(s))))}
	p.all()
	return string(p.packed), api.OK
}

// Unpack a text.
func Unpack(s string, most int) (string, api.Errno) {
	if most < 0 || most > api.MaxText {
		return "", api.ErrRange
	}
	told, size, e := wire.ReadNumber(s)
	if e != api.OK {
		return "", api.ErrForm
	}
	if told > uint64(most) {
		return "", api.ErrMany
	}
	u := unpacker{rest: s[size:], told: int(told)}
	if e := u.all(); e != api.OK {
		return "", e
	}
	return string(u.made), api.OK
}
