package scrape

import (
	"gleaner/api"
	"gleaner/record"
	"gleaner/relabel"
)

// checkAll: what is wrong ahead of anything's being read.
func checkAll(w api.Watch, s api.Scrape, k api.Known) api.Errno {
	if e := Check(w); e != api.OK {
		return e
	}
	if s.Now < -api.MaxTime || s.Now > api.MaxTime || !upTo(s.Limits.Bytes, api.MaxText) || !upTo(s.Limits.Readings, api.MaxReadings) {
		return api.ErrRange
	}
	if len(s.Rules) > api.MaxRules {
		return api.ErrMany
	}
	for _, r := range s.Rules {
		if e := relabel.Check(r); e != api.OK {
			return e
		}
	}
	return record.Check(k)
}

// upTo: is a number from 0 to a bound?
func upTo(n, most int) bool {
	return n >= 0 && n <= most
}
