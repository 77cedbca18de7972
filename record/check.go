package record

import (
	"gleaner/api"
	"gleaner/labels"
)

// maxKnown is how many refs may be known.
const maxKnown = 1000

// refuse gives up with an error, if something is wrong.
func refuse(wrong bool, e api.Errno) {
	if wrong {
		panic(e)
	}
}

// checkRecord gives up, if a record can't be packed.
func checkRecord(r api.Record) {
	series, samples := r.Kind == api.RecordSeries, r.Kind == api.RecordSamples
	refuse(!series && !samples, api.ErrKind)
	refuse(series && len(r.Points) > 0 || samples && len(r.Refs) > 0, api.ErrForm)
	refuse(len(r.Refs) > api.MaxSeries || len(r.Points) > api.MaxSamples, api.ErrMany)
	for _, x := range r.Refs {
		checkRef(x)
	}
	for _, p := range r.Points {
		checkNumber(p.Ref)
		checkTime(p.Time)
	}
}

// checkKnown gives up, if what is known can't be.
func checkKnown(k api.Known) {
	refuse(len(k.Lasts) != len(k.Refs) || len(k.Has) != len(k.Refs), api.ErrForm)
	refuse(len(k.Refs) > maxKnown, api.ErrMany)
	for i, x := range k.Refs {
		checkRef(x)
		checkTime(k.Lasts[i])
		refuse(!k.Has[i] && k.Lasts[i] != 0, api.ErrForm)
		refuse(i > 0 && k.Refs[i-1].Ref >= x.Ref, api.ErrState)
	}
	checkTwice(k.Refs)
}

// checkTwice gives up, if two refs that are right have the same labels.
func checkTwice(refs []api.Ref) {
	met := map[string]struct{}{}
	for _, x := range refs {
		text := textOf(x)
		_, there := met[text]
		refuse(there, api.ErrTwice)
		met[text] = struct{}{}
	}
}

func checkRef(x api.Ref) {
	checkNumber(x.Ref)
	refuse(len(x.Labels) == 0, api.ErrForm)
	e := labels.Check(x.Labels)
	refuse(e != api.OK, e)
}

func checkNumber(ref int) {
	refuse(ref < 1 || ref > api.MaxRef, api.ErrRange)
}

func checkTime(time int) {
	refuse(time < -api.MaxTime || time > api.MaxTime, api.ErrRange)
}

// textOf the labels of a ref that is right. It has some; and labels that are others have another text then.
func textOf(x api.Ref) string {
	text, _ := labels.Text(x.Labels)
	return text
}
