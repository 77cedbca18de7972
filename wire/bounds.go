package wire

import "gleaner/api"

// checkCounts gives up with ErrMany, if there is too much of something.
func checkCounts(l []api.Series) {
	most(len(l), api.MaxSeries)
	for _, s := range l {
		most(len(s.Labels), api.MaxLabels)
		most(len(s.Samples), api.MaxSamples)
		for _, x := range s.Labels {
			most(len(x.Name), api.MaxText)
			most(len(x.Value), api.MaxText)
		}
	}
}

func most(n, bound int) {
	if n > bound {
		panic(api.ErrMany)
	}
}

// checkTimes gives up with ErrRange, if a time is none.
func checkTimes(l []api.Series) {
	for _, s := range l {
		for _, p := range s.Samples {
			if p.Time < -api.MaxTime || p.Time > api.MaxTime {
				panic(api.ErrRange)
			}
		}
	}
}
