package mask_test

import (
	"slices"
	"strings"
	"testing"

	"gleaner/api"
	"gleaner/mask"
)

// D3: what a template makes.
func TestExpand(t *testing.T) {
	nine := strings.Split("ABCDEFGHI", "")
	for _, c := range []struct {
		template string
		groups   []string
		want     string
	}{
		{"", nil, ""},
		{"abc", nil, "abc"},
		{"{1}", nine, "{1}"},
		{"a}b{c\\1%0\x00\xff", nine, "a}b{c\\1%0\x00\xff"},
		{"$$", nine, "$"},
		{"$$1", nine, "$1"},
		{"$$$1", nine, "$A"},
		{"$$$$", nine, "$$"},
		{"$${1}", nine, "${1}"},
		{"$0", nine, "whole"},
		{"${0}", nine, "whole"},
		{"$0", nil, "whole"},
		{"$1$2$3$4$5$6$7$8$9", nine, "ABCDEFGHI"},
		{"${1}${2}${3}${4}${5}${6}${7}${8}${9}", nine, "ABCDEFGHI"},
		{"$10", nine, "A0"},
		{"${1}0", nine, "A0"},
		{"$1}", nine, "A}"},
		{"a$1b${2}c$3", nine, "aAbBcC"},
		{"$1", nil, ""},
		{"x${9}y", nine[:8], "xy"},
		{"$8$9", nine[:8], "H"},
		{"$1$2", []string{"", "b"}, "b"},
		{"$1", []string{"$2", "b"}, "$2"},
		{"$1", append(slices.Clone(nine), "tenth"), "A"},
	} {
		if s, e := mask.Expand(c.template, "whole", c.groups); s != c.want || e != api.OK {
			t.Errorf("Expand(%q) is %q %d, not %q", c.template, s, e, c.want)
		}
	}
}

// D3: what is no template, wherever it stands, whatever the groups are.
func TestExpandForm(t *testing.T) {
	for _, wrong := range []string{
		"$", "$x", "$-", "$ ", "$\x00", "$\xff", "$}", "$:", "$/", "${", "${1", "${}", "${a}", "${1x", "${12}", "${1 }", "${ 1}", "${-1}", "${$}", "${:}", "${/}", "${{1}}", "$(1)", "$\\1", "$$$", "$1$",
	} {
		for _, s := range []string{wrong, "a" + wrong, "$1" + wrong, "$$" + wrong, strings.Repeat("$1", 5000) + wrong, strings.Repeat("x", 20001) + wrong} {
			if u, e := mask.Expand(s, "whole", []string{"one", "two"}); u != "" || e != api.ErrForm {
				t.Errorf("Expand(%.40q) is %.40q %d", s, u, e)
			}
		}
	}
	if s, e := mask.Expand("${1", "", nil); s != "" || e != api.ErrForm {
		t.Errorf("it is %q %d", s, e)
	}
}

// D3: each byte behind a `$`.
func TestExpandBytes(t *testing.T) {
	for i := range 256 {
		c := string([]byte{byte(i)})
		want, e := "", api.ErrForm
		switch {
		case c == "$":
			want, e = "$", api.OK
		case c >= "0" && c <= "9":
			want, e = "", api.OK
			if c == "0" {
				want = "w"
			}
		}
		if s, f := mask.Expand("$"+c, "w", nil); s != want || f != e {
			t.Errorf("Expand(%q) is %q %d, not %q %d", "$"+c, s, f, want, e)
		}
	}
}

// D3: how long it may get.
func TestExpandLong(t *testing.T) {
	x := strings.Repeat("x", 10000)
	huge := strings.Repeat("y", 1000000)
	for _, c := range []struct {
		template, whole string
		groups          []string
		want            int
	}{
		{"$0$0", x, nil, 20000},
		{"$0$0a", x, nil, -1},
		{"a$0$0", x, nil, -1},
		{"$0$0$1$2$3", x, []string{"", ""}, 20000},
		{"$0$0$$", x, nil, -1},
		{x + "$1", "", []string{x}, 20000},
		{x + "$1$2", "", []string{x, "z"}, -1},
		{"$1" + x, "", []string{x[1:]}, 19999},
		{"$0", huge, []string{huge}, -1},
		{"$0", x + x, []string{huge}, 20000},
		{x + x, huge, nil, 20000},
		{x + x + "x", "", nil, -1},
		{huge, "", nil, -1},
		{"$1" + huge + "$2", "", []string{huge, huge}, -1},
		{strings.Repeat("$3", 500000), huge, nil, 0},
		{strings.Repeat("$0", 500000), huge, nil, -1},
		{strings.Repeat("$$", 20000), "", nil, 20000},
		{strings.Repeat("$$", 20001), "", nil, -1},
	} {
		s, e := mask.Expand(c.template, c.whole, c.groups)
		if c.want < 0 && (s != "" || e != api.ErrMany) || c.want >= 0 && (len(s) != c.want || e != api.OK) {
			t.Errorf("Expand(%.20q) is %d bytes, %d, not %d", c.template, len(s), e, c.want)
		}
	}
}

// P2: the groups are only read. P3: by the same, the same each time.
func TestExpandOnlyReads(t *testing.T) {
	groups := []string{"a", "b", "c", "d"}
	s, _ := mask.Expand("$1$2$3$0", "w", groups[:2])
	u, _ := mask.Expand("$1$2$3$0", "w", groups[:2])
	if s != "abw" || u != s || !slices.Equal(groups, []string{"a", "b", "c", "d"}) {
		t.Errorf("%q, %q, %q", s, u, groups)
	}
}

// D2, D3: what a mask's groups took goes into a template.
func TestMatchedIsExpanded(t *testing.T) {
	ok, l, e := mask.Match("(.+):([0-9]+)", "host:9100")
	if !ok || e != api.OK {
		t.Fatalf("%v %d", ok, e)
	}
	if s, e := mask.Expand("$2 of ${1}, $0$3$$", "host:9100", l); s != "9100 of host, host:9100$" || e != api.OK {
		t.Errorf("it is %q %d", s, e)
	}
}
