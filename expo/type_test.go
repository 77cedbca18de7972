package expo_test

import (
	"strings"
	"testing"

	"gleaner/api"
)

var kinds = []string{"counter", "gauge", "histogram", "summary", "untyped"}

// F4: lines that tell a type.
func TestTypes(t *testing.T) {
	for _, kind := range kinds {
		for _, s := range []string{"# TYPE a " + kind, "#TYPE a " + kind, " \t# \tTYPE\t a \t" + kind + " \t"} {
			told(t, s)
			told(t, s+"\n# TYPE b "+kind+"\n# TYPE A "+kind+"\n")
			told(t, s+"\na 1", untimed(1, "__name__", "a"))
			told(t, "b{a=\"a\"} 1\naa 1\n"+s+"\nb 2", untimed(1, "__name__", "b", "a", "a"), untimed(1, "__name__", "aa"), untimed(2, "__name__", "b"))
			wrong(t, s+"x", api.ErrForm, 0)
			wrong(t, s+" x", api.ErrForm, 0)
			wrong(t, "a 1\n"+s, api.ErrState, 4)
			wrong(t, "b 1\n"+s+"\n"+s, api.ErrTwice, 5+len(s))
		}
	}
	told(t, "# TYPE "+strings.Repeat("n", 40)+" gauge")
	told(t, "# TYPE TYPE gauge\n# TYPE gauge gauge\n# TYPE __name__ gauge\n# TYPE _ gauge")
}

// F4: what begins like them, but tells nothing.
func TestNoTypes(t *testing.T) {
	for _, s := range []string{"# TYPE", "#TYPE", " # \tTYPE", "# TYPES", "# TYPES a b", "# TYPE_ a gauge", "# TYPE1 a", "# Type a", "# type a x", "# TYP E a", "# xTYPE a", "## TYPE a", "# # TYPE a", "# x TYPE a", "# TYPE#", "# TYPE\r", "# TYPE\x00a b", "# TYPE=a"} {
		told(t, s)
		told(t, s+"\n"+s+"\n")
		told(t, "a 1\n"+s+"\na 1", untimed(1, "__name__", "a"), untimed(1, "__name__", "a"))
	}
}

// F4: `TYPE` and a blank, but not all of it: at the line's first byte.
func TestWrongTypes(t *testing.T) {
	for _, s := range []string{
		"# TYPE ", "#TYPE\t", "# TYPE  \t", "# TYPE a", "# TYPE a ", "# TYPE gauge", "# TYPE  gauge", "# TYPE 1 gauge", "# TYPE a-b gauge", "# TYPE " + strings.Repeat("n", 41) + " gauge", "# TYPE \xff gauge", "# TYPE a{} gauge", "# TYPE a: gauge",
		"# TYPE a foo", "# TYPE a Gauge", "# TYPE a gauges", "# TYPE a gaug", "# TYPE a unknown", "# TYPE a \"gauge\"", "# TYPE a gauge\r", "# TYPE a gauge x", "# TYPE a gauge gauge", "# TYPE a gauge #", "# TYPE a counter,gauge", "# TYPE a countergauge",
	} {
		for _, ahead := range []string{"", " ", " \t "} {
			wrong(t, ahead+s, api.ErrForm, 0)
			wrong(t, ahead+s+"\n^", api.ErrForm, 0)
			wrong(t, "a 1\n\n"+ahead+s+"\n", api.ErrForm, 5)
		}
	}
}

// F4: one type twice, and behind a reading: at the line's first byte; what is named first, of both (P1).
func TestTypesInOrder(t *testing.T) {
	wrong(t, "# TYPE a gauge\n # TYPE a gauge", api.ErrTwice, 15)
	wrong(t, "# TYPE a gauge\n\t#TYPE a counter\n^", api.ErrTwice, 15)
	wrong(t, "# TYPE a gauge\na 1\n# TYPE a gauge", api.ErrTwice, 19)
	wrong(t, "# TYPE a gauge\na 1\n# TYPE b gauge\nb 1\n# TYPE b gauge", api.ErrTwice, 38)
	wrong(t, "a 1\n# TYPE a gauge", api.ErrState, 4)
	wrong(t, "a{b=\"c\"} NaN 5\n  # TYPE a gauge", api.ErrState, 15)
	wrong(t, "b 1\na 1\nc 1\n#x\n# TYPE a gauge", api.ErrState, 15)
	wrong(t, "a 1\n# TYPE a foo", api.ErrForm, 4)
	wrong(t, "# TYPE a gauge\n# TYPE a foo", api.ErrForm, 15)
	wrong(t, "a 1\n# TYPE a gauge\n# TYPE a gauge", api.ErrState, 4)
	wrong(t, "a x\n# TYPE a gauge", api.ErrForm, 2)
}
