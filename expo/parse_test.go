package expo_test

import (
	"math"
	"strings"
	"testing"

	"gleaner/api"
	"gleaner/expo"
	"gleaner/labels"
)

// of some names and values, one behind the other.
func of(namesAndValues ...string) []api.Label {
	var l []api.Label
	for i := 0; i < len(namesAndValues); i += 2 {
		l = append(l, api.Label{Name: namesAndValues[i], Value: namesAndValues[i+1]})
	}
	return l
}

// at a time.
func at(time int, number float64, namesAndValues ...string) api.Reading {
	return api.Reading{Labels: of(namesAndValues...), Bits: math.Float64bits(number), Timed: true, Time: time}
}

// untimed reading.
func untimed(number float64, namesAndValues ...string) api.Reading {
	return api.Reading{Labels: of(namesAndValues...), Bits: math.Float64bits(number)}
}

// same readings: an empty list may be nil or not.
func same(a, b []api.Reading) bool {
	if len(a) != len(b) {
		return false
	}
	for i, x := range a {
		y := b[i]
		if x.Bits != y.Bits || x.Timed != y.Timed || x.Time != y.Time || len(x.Labels) != len(y.Labels) {
			return false
		}
		for k := range x.Labels {
			if x.Labels[k] != y.Labels[k] {
				return false
			}
		}
	}
	return true
}

// told: a text must be read so.
func told(t *testing.T, s string, want ...api.Reading) {
	t.Helper()
	if l, f := expo.Parse(s); !same(l, want) || f != (api.Fault{}) {
		t.Errorf("%.200q: it is %v %v, not %v", s, l, f, want)
	}
}

// wrong: this must be the fault of a text, and nothing else comes (P1).
func wrong(t *testing.T, s string, e api.Errno, at int) {
	t.Helper()
	if l, f := expo.Parse(s); len(l) != 0 || f != (api.Fault{Err: e, At: at}) {
		t.Errorf("%.200q: it is %v %v, not %v", s, l, f, api.Fault{Err: e, At: at})
	}
}

// F2: lines that tell nothing.
func TestNothing(t *testing.T) {
	for _, s := range []string{"", "\n", "\n\n\n", " ", "\t \t", " \n\t\n \t ", "#", " \t#", "#\n#", "# any thing { = \" \\ \x00\xff", "#a 1", "##", "# # TYPE a gauge", "# HELP a b\n\n # EOF"} {
		told(t, s)
		told(t, s+"\n")
		told(t, s+"\na 1\n"+s, untimed(1, "__name__", "a"))
	}
}

// F2: lines, and what they tell.
func TestLines(t *testing.T) {
	a := untimed(1, "__name__", "a")
	for _, s := range []string{"a 1", "a\t1", " \ta \t 1\t ", "a{}1", "a{} 1", "a {}1", "a \t{ \t}\t 1 ", "a 1.0e0", "a +1.", "a{}+1", "a{}.1E1"} {
		told(t, s, a)
		told(t, s+"\n", a)
		told(t, s+"\n"+s, a, a)
		told(t, "\n"+s+"\n\n", a)
	}
	told(t, `up{a="b"} 1 7`, at(7, 1, "__name__", "up", "a", "b"))
	told(t, "a 1 7\nb 2 -7\nc 3\n", at(7, 1, "__name__", "a"), at(-7, 2, "__name__", "b"), untimed(3, "__name__", "c"))
	for s, time := range map[string]int{"0": 0, "-0": 0, "1": 1, "-5": -5, "0000000000000007": 7, "-0000000000000007": -7, "9007199254740991": api.MaxTime, "-9007199254740991": -api.MaxTime} {
		told(t, "a 1 "+s, at(time, 1, "__name__", "a"))
		told(t, "a{}1\t \t"+s+" \t\n", at(time, 1, "__name__", "a"))
	}
	for s, bits := range map[string]uint64{"NaN": api.BitsNone, "Inf": api.BitsMore, "+Inf": api.BitsMore, "-Inf": api.BitsLess, "-0": 1 << 63, "1e9999": api.BitsMore, "5e-324": 1} {
		told(t, "a "+s, api.Reading{Labels: of("__name__", "a"), Bits: bits})
		told(t, "a{}"+s+" 5", api.Reading{Labels: of("__name__", "a"), Bits: bits, Timed: true, Time: 5})
	}
	told(t, "a "+strings.Repeat("0", 99)+"1", a)
	for _, name := range []string{"A", "_", "__name__", "a1_Z9", "NaN", "Inf", "e1", strings.Repeat("n", 40)} {
		told(t, name+" 1", untimed(1, "__name__", name))
		if name != "__name__" {
			l, _ := labels.Make(of("__name__", "a", name, "x"))
			told(t, "a{"+name+`="x"}1`, api.Reading{Labels: l, Bits: math.Float64bits(1)})
		}
	}
}

// F2 and F3: labels, in any order, are as Make makes them.
func TestLabels(t *testing.T) {
	for _, c := range []struct {
		s    string
		want []api.Label
	}{
		{`{}`, of("__name__", "a")},
		{`{b="c"}`, of("__name__", "a", "b", "c")},
		{`{b="c",}`, of("__name__", "a", "b", "c")},
		{"{ \tb \t= \t\"c\" \t, \t}", of("__name__", "a", "b", "c")},
		{`{b="c",d="e"}`, of("__name__", "a", "b", "c", "d", "e")},
		{"\t{ d\t=\t\"e\" , b = \"c\" ,\t} ", of("__name__", "a", "b", "c", "d", "e")},
		{`{b="c",B="d",_="e",a="f"}`, of("B", "d", "_", "e", "__name__", "a", "a", "f", "b", "c")},
		{`{b=""}`, of("__name__", "a")},
		{`{b="",c="d",e=""}`, of("__name__", "a", "c", "d")},
		{`{b=" c\\\"\nd "}`, of("__name__", "a", "b", " c\\\"\nd ")},
		{`{b="\\n\\\\\"\""}`, of("__name__", "a", "b", `\n\\""`)},
		{"{b=\"{},=#'` \t\r\x00\x80\xff\xc3\"}", of("__name__", "a", "b", "{},=#'` \t\r\x00\x80\xff\xc3")},
		{`{b="# TYPE a gauge"}`, of("__name__", "a", "b", "# TYPE a gauge")},
		{`{b="` + strings.Repeat("v", 100) + `"}`, of("__name__", "a", "b", strings.Repeat("v", 100))},
		{`{b="` + strings.Repeat(`\\`, 100) + `"}`, of("__name__", "a", "b", strings.Repeat(`\`, 100))},
		{`{` + strings.Repeat("n", 40) + `="c"}`, of("__name__", "a", strings.Repeat("n", 40), "c")},
	} {
		told(t, "a"+c.s+"1", api.Reading{Labels: c.want, Bits: math.Float64bits(1)})
		told(t, "a"+c.s+" 1 5", api.Reading{Labels: c.want, Bits: math.Float64bits(1), Timed: true, Time: 5})
	}
	list, want := "", []string{"__name__", "a"}
	for i := range 19 {
		name := "n" + string(rune('a'+i))
		list += name + `="v",`
		want = append(want, name, "v")
	}
	told(t, "a{"+list+"}1", untimed(1, want...))
	wrong(t, "a{"+list+`z="v"}1`, api.ErrMany, 0)
	wrong(t, "a{"+list+`z=""}1`, api.ErrMany, 0)
	wrong(t, "a{"+strings.Repeat(list, 50)+"}1", api.ErrMany, 0)
}

// F3: ErrForm at the byte, or the line's end, with which a line cannot go on so. The place is told by a ^ ahead of it.
var wrongForms = []string{
	// names
	"^1 a", " \t^-", "^{} 1", "^=", "^\"", "^\x00", "^\xff", "^\r", "^é 1", "^}", " ^.5", "^\\", "^,",
	"a^", "a1^", "a^-1", "a^+1", "a^.5", "a^=", "a^}", "a^\r", "a^\x00 1", "a^é 1", "a^:b 1", "a^,", "a^\"",
	strings.Repeat("n", 40) + "^n 1", strings.Repeat("n", 40) + "^n", strings.Repeat("n", 40) + "^_{} 1", strings.Repeat("n", 40) + "^",
	// labels
	"a{^", "a {\t^", "a{^,}1", "a{ ^,}1", "a{^1=\"x\"}1", "a{^=\"x\"}1", "a{^\"x\"}1", "a{^-}1", "a{^{}1", "a{^# 1",
	"a{b^", "a{b ^", "a{b^}1", "a{b ^c=\"x\"}1", "a{b^,}1", "a{b^-=\"x\"}1", "a{b^\"x\"}1", "a{b^:=\"x\"}1",
	"a{" + strings.Repeat("n", 40) + "^n=\"x\"}1", "a{b=\"x\"," + strings.Repeat("n", 40) + "^n=\"x\"}1",
	"a{b=^", "a{b= ^", "a{b=^}1", "a{b=^c}1", "a{b=^=\"x\"}1", "a{b=^'x'}1", "a{b=^1}1", "a{b= ^,}1",
	"a{b=\"^", "a{b=\"x} 1^", "a{b=\"x\\^", "a{b=\"\\^x\"}1", "a{b=\"\\^t\"}1", "a{b=\"\\^'\"}1", "a{b=\"\\^N\"}1", "a{b=\"x\\\"}1^", "a{b=\"\\^ \"}1", "a{b=\"\\^\xff\"}1",
	"a{b=\"x\"^", "a{b=\"x\" ^", "a{b=\"x\"^\"}1", "a{b=\"x\"^c=\"y\"}1", "a{b=\"x\" ^c=\"y\"}1", "a{b=\"x\"^1}1", "a{b=\"x\"^=}1", "a{b=\"x\"^;}1",
	"a{b=\"x\",^", "a{b=\"x\", ^", "a{b=\"x\",^,}1", "a{b=\"x\" , ^,}1", "a{b=\"x\",^1}1", "a{b=\"x\",^\"}1",
	// numbers, where they begin
	"a ^", "a \t^", "a{}^", "a{} ^", "a{b=\"x\"}^", "a ^x", "a ^1x", "a ^1.1.1", "a ^1{}", "a ^1,2", "a ^1#", "a ^1\r", "a ^nan", "a{}^nan 5", "a ^-", "a ^. 5", "a ^1e 5", "a ^1e12345", "a ^}", "a{}^}", "a{}^{}1", "a{} ^{}1", "a ^# 1", "a ^=1", "a ^b 1", "a{}^b 1", "a ^0x1", "a ^\"1\"", "a ^1\x00", "a ^\xff",
	// times, where they begin
	"a 1 ^x", "a 1 ^1.5", "a 1 ^1x", "a 1\t^+1", "a 1 ^-", "a 1 ^--1", "a 1 ^1-", "a 1 ^- 1", "a{}1 ^1e3", "a 1 ^NaN", "a 1 ^#", "a 1 ^# 5", "a 1 ^5\r", "a 1 ^12345678901234567", "a 1 ^00000000000000000", "a 1 ^-12345678901234567", "a 1 ^\x00", "a 1 ^{}", "a 1 ^\"5\"",
	// what is behind them
	"a 1 5 ^5", "a 1 5\t ^x", "a 1 5 ^#", "a 1 5 ^# x", "a{}1 5 ^-", "a 1 5 ^\r", "a 1 5 ^\x00",
}

func TestForms(t *testing.T) {
	for _, c := range wrongForms {
		at := strings.Index(c, "^")
		s := c[:at] + c[at+1:]
		wrong(t, s, api.ErrForm, at)
		wrong(t, s+"\n", api.ErrForm, at)
		wrong(t, s+"\na 1\n", api.ErrForm, at)
		wrong(t, s+"\n^", api.ErrForm, at)
		wrong(t, "a 1\n# x\n\n"+s, api.ErrForm, 9+at)
		wrong(t, "b{c=\"\\n\"} 1 5\n"+s+"\n\"", api.ErrForm, 14+at)
	}
}

// F3: faults that are not of form: of two in one line the one that is met first.
func TestFaults(t *testing.T) {
	long, value := strings.Repeat("1", 101), strings.Repeat("v", 101)
	for _, c := range []struct {
		s  string
		e  api.Errno
		at int
	}{
		{"a " + long, api.ErrMany, 2},
		{"a " + strings.Repeat("x", 101), api.ErrMany, 2},
		{"a{} " + long + " x", api.ErrMany, 4},
		{"a{}" + long + " 9999999999999999", api.ErrMany, 3},
		{"a 1 9007199254740992", api.ErrRange, 4},
		{"a 1 -9007199254740992", api.ErrRange, 4},
		{"a 1 9999999999999999", api.ErrRange, 4},
		{"a 1 \t-9999999999999999", api.ErrRange, 5},
		{"a 1 9007199254740992 x", api.ErrRange, 4},
		{"a 1 9007199254740992x", api.ErrForm, 4},
		{"a x 9007199254740992", api.ErrForm, 2},
		{`a{b="1",b="2"} 1`, api.ErrTwice, 0},
		{`a{b="1",c="",b=""} 1`, api.ErrTwice, 0},
		{`a{__name__="a"} 1`, api.ErrTwice, 0},
		{`a{__name__=""} 1`, api.ErrTwice, 0},
		{`a{b="` + value + `"} 1`, api.ErrMany, 0},
		{`  a{b="` + value + `",b="x"} 1`, api.ErrMany, 0},
		{`a{b="1",b="2"} x`, api.ErrForm, 15},
		{`a{b="1",b="2"} 1 x`, api.ErrForm, 17},
		{`a{b="1",b="2"} 1 5 x`, api.ErrForm, 19},
		{`a{b="1",b="2"} ` + long, api.ErrMany, 15},
		{`a{b="1",b="2"} 1 9007199254740992`, api.ErrRange, 17},
		{`a{b="` + value + `"} 1 5 x`, api.ErrForm, 113},
		{" \ta{b=\"1\",b=\"2\"} 1", api.ErrTwice, 0},
	} {
		wrong(t, c.s, c.e, c.at)
		wrong(t, c.s+"\n^", c.e, c.at)
		wrong(t, "x 1\n"+c.s+"\n", c.e, 4+c.at)
		wrong(t, "  # x\n \n"+c.s, c.e, 8+c.at)
	}
}

// F3: how many bytes a text may have, and how many readings.
func TestBounds(t *testing.T) {
	wrong(t, strings.Repeat("#", 20001), api.ErrMany, 0)
	wrong(t, strings.Repeat("\n", 20001), api.ErrMany, 0)
	wrong(t, "^"+strings.Repeat("x", 20000), api.ErrMany, 0)
	told(t, strings.Repeat("#", 20000))
	told(t, "a 1"+strings.Repeat(" ", 19997), untimed(1, "__name__", "a"))
	wrong(t, strings.Repeat("x", 20000), api.ErrForm, 40)
	most := strings.Repeat("a 1\n", 300)
	if l, f := expo.Parse(most + "# x\n\n # TYPE b gauge\n "); len(l) != 300 || f != (api.Fault{}) {
		t.Errorf("of 300 readings there are %d, and %v", len(l), f)
	}
	wrong(t, most+"a 1", api.ErrMany, 1200)
	wrong(t, most+"#\n\t a 1\n^", api.ErrMany, 1202)
	wrong(t, most+"a 1 x", api.ErrForm, 1204)
	wrong(t, most+"a{b=\"1\",b=\"2\"} 1", api.ErrTwice, 1200)
	wrong(t, most+"# TYPE a gauge\nb 1", api.ErrState, 1200)
}
