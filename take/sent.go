package take

import (
	"gleaner/api"
	"gleaner/labels"
	"gleaner/press"
	"gleaner/wire"
)

// read the series of a text that was sent; are they what may be sent?
func read(s string) ([]api.Series, bool) {
	text, e := press.Unpack(s, api.MaxText)
	if e != api.OK {
		return nil, false
	}
	l, e := wire.Read(text)
	if e != api.OK {
		return nil, false
	}
	for _, x := range l {
		if len(x.Labels) == 0 || labels.Check(x.Labels) != api.OK {
			return nil, false
		}
	}
	return l, true
}
