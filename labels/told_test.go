package labels_test

import (
	"hash/fnv"
	"strings"
	"testing"

	"gleaner/api"
	"gleaner/labels"
)

// C3: Text.
func TestText(t *testing.T) {
	for _, c := range []struct {
		l    []api.Label
		want string
	}{
		{nil, `{}`},
		{of("__name__", "up"), `up`},
		{of("__name__", "up", "job", "x"), `up{job="x"}`},
		{of("a", "x"), `{a="x"}`},
		{of("a", "x", "b", "y", "c", "z"), `{a="x",b="y",c="z"}`},
		{of("A", "x", "__name__", "up", "a", "y"), `up{A="x",a="y"}`},
		{of("__name", "x", "__name__", "up", "__name___", "y"), `up{__name="x",__name___="y"}`},
		{of("a", `\`, "b", `"`, "c", "\n"), `{a="\\",b="\"",c="\n"}`},
		{of("a", `q"u\o`+"\nt"), `{a="q\"u\\o\nt"}`},
		{of("a", `\n`, "b", `\\"`), `{a="\\n",b="\\\\\""}`},
		{of("a", "\r\t\x00\xff', {}="), "{a=\"\r\t\x00\xff', {}=\"}"},
		// The value of __name__ is a value, too.
		{of("__name__", `\`), `\\`},
		{of("__name__", "a\"b\nc", "d", "e"), `a\"b\nc{d="e"}`},
		{of("__name__", `up{a="b"}`), `up{a=\"b\"}`},
	} {
		if s, e := labels.Text(c.l); s != c.want || e != api.OK {
			t.Errorf("Text of %q is %s %d, not %s", c.l, s, e, c.want)
		}
	}
}

// C3: the longest text there is.
func TestTextLongest(t *testing.T) {
	l := many(20)
	want := ""
	for i := range l {
		l[i].Name += strings.Repeat("n", 37)
		l[i].Value = strings.Repeat("\n", 100)
		want += "," + l[i].Name + `="` + strings.Repeat(`\n`, 100) + `"`
	}
	if s, e := labels.Text(l); s != "{"+want[1:]+"}" || e != api.OK {
		t.Errorf("it is %s %d", s, e)
	}
}

// C4: Sum, as reckoned elsewhere.
func TestSum(t *testing.T) {
	for _, l := range [][]api.Label{
		nil,
		of("a", "x"),
		of("ax", "y"),
		of("a", "xy"),
		of("a", "\xff"),
		of("a", "\xffb\xffc"),
		of("a", "x", "b", "y"),
		of("a", "y", "b", "x"),
		of("__name__", "up", "job", "x", "z", strings.Repeat("\x00", 100)),
		many(20),
	} {
		h := fnv.New64a()
		for _, x := range l {
			h.Write([]byte(x.Name + "\xff" + x.Value + "\xff"))
		}
		if n, e := labels.Sum(l); n != h.Sum64() || e != api.OK {
			t.Errorf("Sum of %q is %d %d, not %d", l, n, e, h.Sum64())
		}
	}
	if n, _ := labels.Sum(nil); n != 14695981039346656037 {
		t.Errorf("Sum of none is %d", n)
	}
}

// C4: labels that rise, by Compare.
var rising = [][]api.Label{
	nil,
	of("A", "x"),
	of("_", "x"),
	of("a", "\x00"),
	of("a", "B"),
	of("a", "a"),
	of("a", "a", "b", "x"),
	of("a", "a", "b", "x", "c", "x"),
	of("a", "a", "b", "y"),
	of("a", "a", "ba", "a"),
	of("a", "a", "c", "a"),
	of("a", "aa"),
	of("a", "b"),
	of("a", "\xff"),
	of("ab", "a"),
	of("b", "a"),
	of("b", "a", "c", "a"),
}

func TestCompare(t *testing.T) {
	for i, a := range rising {
		for k, b := range rising {
			want := 0
			if i < k {
				want = -1
			} else if i > k {
				want = 1
			}
			if c, e := labels.Compare(a, b); c != want || e != api.OK {
				t.Errorf("%q and %q: it is %d %d, not %d", a, b, c, e, want)
			}
		}
	}
}
