package find_test

import (
	"slices"
	"strconv"
	"strings"
	"testing"

	"gleaner/api"
	"gleaner/find"
	"gleaner/labels"
)

// of some names and values, one behind the other: a target.
func of(namesAndValues ...string) api.Target {
	var t api.Target
	for i := 0; i < len(namesAndValues); i += 2 {
		t.Labels = append(t.Labels, api.Label{Name: namesAndValues[i], Value: namesAndValues[i+1]})
	}
	return t
}

// same targets: an empty list may be nil or not.
func same(a, b []api.Target) bool {
	return slices.EqualFunc(a, b, func(x, y api.Target) bool { return slices.Equal(x.Labels, y.Labels) })
}

// told: a text must be read so.
func told(t *testing.T, s string, want ...api.Target) {
	t.Helper()
	if l, f := find.Parse(s); !same(l, want) || f != (api.Fault{}) {
		t.Errorf("%.200q: it is %v %v, not %v", s, l, f, want)
	}
}

// wrong: this must be the fault of a text, and nothing else comes (P1).
func wrong(t *testing.T, s string, e api.Errno, at int) {
	t.Helper()
	if l, f := find.Parse(s); len(l) != 0 || f != (api.Fault{Err: e, At: at}) {
		t.Errorf("%.200q: it is %v %v, not %v", s, l, f, api.Fault{Err: e, At: at})
	}
}

// G1: lines that tell nothing. What types are told as is nothing here.
func TestNothing(t *testing.T) {
	for _, s := range []string{"", "\n", "\n\n\n", " ", "\t \t", " \n\t\n \t ", "#", " \t#", "#\n#", "# any thing { = \" \\ \x00\xff", `#a="b"`, "##", "# TYPE a gauge\n# TYPE a gauge", "# TYPE x", "# EOF"} {
		told(t, s)
		told(t, s+"\n")
		told(t, s+"\na=\"1\"\n"+s+"\nb=\"2\"", of("a", "1"), of("b", "2"))
	}
}

// G1: lines, and what they tell: labels in any order are as Make makes them.
func TestLines(t *testing.T) {
	for _, c := range []struct {
		s    string
		want api.Target
	}{
		{`b="c"`, of("b", "c")},
		{`b="c",`, of("b", "c")},
		{" \tb \t= \t\"c\" \t, \t", of("b", "c")},
		{"b = \"c\" ", of("b", "c")},
		{`b="c",d="e"`, of("b", "c", "d", "e")},
		{"\t d\t=\t\"e\" , b = \"c\" ,\t ", of("b", "c", "d", "e")},
		{`b="c",B="d",_="e",a="f",__name__="g"`, of("B", "d", "_", "e", "__name__", "g", "a", "f", "b", "c")},
		{`b="",c="d",e=""`, of("c", "d")},
		{`b=" c\\\"\nd "`, of("b", " c\\\"\nd ")},
		{`b="\\n\\\\\"\""`, of("b", `\n\\""`)},
		{"b=\"{},=#'` \t\r\x00\x80\xff\xc3\"", of("b", "{},=#'` \t\r\x00\x80\xff\xc3")},
		{`b="#"`, of("b", "#")},
		{`b="` + strings.Repeat("v", 100) + `"`, of("b", strings.Repeat("v", 100))},
		{`b="` + strings.Repeat(`\\`, 100) + `"`, of("b", strings.Repeat(`\`, 100))},
		{strings.Repeat("n", 40) + `="c"`, of(strings.Repeat("n", 40), "c")},
		{`__name__="{}"`, of("__name__", "{}")},
	} {
		told(t, c.s, c.want)
		told(t, c.s+"\n", c.want)
		told(t, "# x\n\nzz=\"1\"\n"+c.s+"\n \nA=\"2\"\n", of("zz", "1"), c.want, of("A", "2"))
	}
	told(t, "a=\"b\"\nc=\"d\"", of("a", "b"), of("c", "d"))
	told(t, "b=\"2\"\na=\"1\"\na=\"0\"", of("b", "2"), of("a", "1"), of("a", "0"))
	list, want := "", api.Target{}
	for i := range 20 {
		name := "n" + string(rune('a'+i))
		list += name + `="v",`
		want.Labels = append(want.Labels, api.Label{Name: name, Value: "v"})
	}
	told(t, list, want)
	wrong(t, list+`z="v"`, api.ErrMany, 0)
	wrong(t, list+`z=""`, api.ErrMany, 0)
}

// G1: ErrForm at the byte, or the line's end, with which a line cannot go on so. The place is told by a ^ ahead of it.
var wrongForms = []string{
	"^,", " ^,", "^,b=\"x\"", "^=\"x\"", "^\"x\"", "^1", "\t^-", "^{}", "^{b=\"x\"}", "^}", "^\x00", "^\xff", "^\r", "^é=\"x\"", "^\\", "^.", "^:b=\"x\"",
	"b^", "b ^", "b^}", "b ^c=\"x\"", "b^,", "b^-=\"x\"", "b^\"x\"", "b^:=\"x\"", "b^{}", "b ^1", "b^é=\"x\"", "b^\r", "b ^#",
	strings.Repeat("n", 40) + "^n=\"x\"", strings.Repeat("n", 40) + "^", "b=\"x\"," + strings.Repeat("n", 40) + "^n=\"x\"",
	"b=^", "b= ^", "b=^c", "b=^=\"x\"", "b=^'x'", "b=^1", "b= ^,", "b=\t^#",
	"b=\"^", "b=\"x^", "b=\"x\\^", "b=\"\\^x\"", "b=\"\\^t\"", "b=\"\\^'\"", "b=\"\\^N\"", "b=\"x\\\"^", "b=\"\\^ \"", "b=\"\\^\xff\"", "b=\"x, ^",
	"b=\"x\"^\"", "b=\"x\"^c=\"y\"", "b=\"x\" ^c=\"y\"", "b=\"x\"^1", "b=\"x\" ^1", "b=\"x\"^=", "b=\"x\"^;", "b=\"x\"^}", "b=\"x\" ^#", "b=\"x\"^\r", "b=\"x\"\t^}", "b=\"x\"^#",
	"b=\"x\",^,", "b=\"x\" , ^,", "b=\"x\",^1", "b=\"x\",^\"", "b=\"x\",^}", "b=\"x\",^#", "b=\"x\", ^=", "b=\"x\",c^", "b=\"x\",c=^", "b=\"x\",c=\"^",
}

func TestForms(t *testing.T) {
	for _, c := range wrongForms {
		at := strings.Index(c, "^")
		s := c[:at] + c[at+1:]
		wrong(t, s, api.ErrForm, at)
		wrong(t, s+"\n", api.ErrForm, at)
		wrong(t, s+"\na=\"1\"\n", api.ErrForm, at)
		wrong(t, s+"\n^", api.ErrForm, at)
		wrong(t, "a=\"1\"\n# x\n\n"+s, api.ErrForm, 11+at)
		wrong(t, "b=\"\\n\"\n"+s+"\n\"", api.ErrForm, 7+at)
	}
}

// G1: faults that stand at a line's first byte; of two in one line the one that is met first, or named first.
func TestFaults(t *testing.T) {
	value := strings.Repeat("v", 101)
	for _, c := range []struct {
		s  string
		e  api.Errno
		at int
	}{
		{`b="1",b="2"`, api.ErrTwice, 0},
		{`b="1",b="1"`, api.ErrTwice, 0},
		{`b="1",c="",b=""`, api.ErrTwice, 0},
		{`b="` + value + `"`, api.ErrMany, 0},
		{" \tb=\"" + value + `",b="x"`, api.ErrMany, 0},
		{`b=""`, api.ErrNone, 0},
		{` b="" , c="",`, api.ErrNone, 0},
		{`b="",b=""`, api.ErrTwice, 0},
		{`b="1",b="2" x`, api.ErrForm, 12},
		{`b="" x`, api.ErrForm, 5},
		{`x="1" x`, api.ErrForm, 6},
		{`x="1"`, api.ErrTwice, 0},
		{` x = "1" ,`, api.ErrTwice, 0},
		{`a="",x="1",y=""`, api.ErrTwice, 0},
		{`d="2",c="1"`, api.ErrTwice, 0},
		{`d="\\\"\n"`, api.ErrTwice, 0},
	} {
		ahead := "x=\"1\"\nc=\"1\",d=\"2\"\nd=\"\\\\\\\"\\n\"\n"
		wrong(t, ahead+c.s, c.e, len(ahead)+c.at)
		wrong(t, ahead+c.s+"\n^", c.e, len(ahead)+c.at)
		wrong(t, ahead+" # x\n \n"+c.s+"\n", c.e, len(ahead)+7+c.at)
	}
	// Those that are nearly the same are others; these are told once.
	told(t, "a=\"1\"\na=\"1\",b=\"1\"\nb=\"1\"\na=\"b\"\na=\"1,b=1\"\na=\"1\\\",b=\\\"1\"\n__name__=\"{a=\\\"1\\\"}\"\n__name__=\"a\"\n__name__=\"a\",a=\"1\"",
		of("a", "1"), of("a", "1", "b", "1"), of("b", "1"), of("a", "b"), of("a", "1,b=1"), of("a", "1\",b=\"1"), of("__name__", "{a=\"1\"}"), of("__name__", "a"), of("__name__", "a", "a", "1"))
}

// G1: how many bytes a text may have, and how many targets.
func TestBounds(t *testing.T) {
	wrong(t, strings.Repeat("#", 20001), api.ErrMany, 0)
	wrong(t, strings.Repeat("\n", 20001), api.ErrMany, 0)
	wrong(t, "^"+strings.Repeat("x", 20000), api.ErrMany, 0)
	wrong(t, `a=""`+strings.Repeat("\n", 20000), api.ErrMany, 0)
	told(t, strings.Repeat("#", 20000))
	told(t, `a="1"`+strings.Repeat(" ", 19995), of("a", "1"))
	wrong(t, strings.Repeat("x", 20000), api.ErrForm, 40)
	most, all := "", []api.Target{}
	for i := range 100 {
		most += "a=\"" + strconv.Itoa(100+i) + "\"\n"
		all = append(all, of("a", strconv.Itoa(100+i)))
	}
	told(t, most, all...)
	told(t, most+"# x\n\n ", all...)
	wrong(t, most+`a="1"`, api.ErrMany, 800)
	wrong(t, most+"#\n\t a=\"1\"\n^", api.ErrMany, 802)
	wrong(t, most+`a="150"`, api.ErrTwice, 800)
	wrong(t, most+`a=""`, api.ErrNone, 800)
	wrong(t, most+`a="1" x`, api.ErrForm, 806)
	wrong(t, most+`a="1",a="2"`, api.ErrTwice, 800)
	if e := labels.Check(all[0].Labels); e != api.OK {
		t.Errorf("a target's labels are not right: %d", e)
	}
}
