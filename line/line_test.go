package line_test

import (
	"slices"
	"strings"
	"testing"

	"gleaner/api"
	"gleaner/line"
)

// Lines come in order, each with its beginning, up to the one that gives up.
func TestEach(t *testing.T) {
	for _, c := range []struct {
		s     string
		words []string
		from  []int
		f     api.Fault
	}{
		{"", nil, nil, api.Fault{}},
		{"\n", []string{""}, []int{0}, api.Fault{}},
		{"a", []string{"a"}, []int{0}, api.Fault{}},
		{"a\n", []string{"a"}, []int{0}, api.Fault{}},
		{"a\n\nbc\td", []string{"a", "", "bc"}, []int{0, 2, 3}, api.Fault{}},
		{"a\r\nx\n b", []string{"a\r", "x"}, []int{0, 3}, api.Fault{Err: api.ErrState, At: 4}},
		{"x", []string{"x"}, []int{0}, api.Fault{Err: api.ErrState, At: 1}},
		{strings.Repeat("b", 20000), []string{strings.Repeat("b", 20000)}, []int{0}, api.Fault{}},
		{strings.Repeat("x", 20001), nil, nil, api.Fault{Err: api.ErrMany}},
	} {
		var words []string
		var from []int
		f := line.Each(c.s, func(l *line.Line) {
			from = append(from, l.First())
			words = append(words, l.Word())
			if words[len(words)-1] == "x" {
				line.GiveUp(api.ErrState, l.At())
			}
		})
		if !slices.Equal(words, c.words) || !slices.Equal(from, c.from) || f != c.f {
			t.Errorf("%.20q: it is %.20q %v %v", c.s, words, from, f)
		}
	}
}

// A panic that is no fault of the text goes on.
func TestOtherPanics(t *testing.T) {
	defer func() {
		if r := recover(); r != "other" {
			t.Errorf("it is %v", r)
		}
	}()
	line.Each("a", func(*line.Line) { panic("other") })
	t.Error("the panic is lost")
}

// Pieces of a line, and how far it is read behind each.
func TestPieces(t *testing.T) {
	f := line.Each("# ab1-c \t{x} ", func(l *line.Line) {
		told := []any{
			l.Blanks(), l.Skip('-'), l.Skip('#'), l.At(), l.Blanks(), l.At(), l.Name(), l.At(), l.Ended(),
			l.Word(), l.At(), l.Blanks(), l.Blanks(), l.At(), l.Word(), l.Blanks(), l.Ended(), l.Blanks(), l.Word(), l.Skip(' '), l.First(), l.At(),
		}
		want := []any{
			false, false, true, 1, true, 2, "ab1", 5, false,
			"-c", 7, true, false, 9, "{x}", true, true, false, "", false, 0, 13,
		}
		if !slices.Equal(told, want) {
			t.Errorf("it is %v, not %v", told, want)
		}
		l.End()
	})
	if f != (api.Fault{}) {
		t.Errorf("it is %v", f)
	}
}

// What must come, but does not, is a fault at its place.
func TestMust(t *testing.T) {
	for what, read := range map[string]func(l *line.Line){
		"a byte":   func(l *line.Line) { l.Must('-') },
		"a name":   func(l *line.Line) { l.Name() },
		"the end":  func(l *line.Line) { l.End() },
		"a label":  func(l *line.Line) { l.Labels(); l.Must('}') },
		"no blank": func(l *line.Line) { l.Must(' ') },
	} {
		f := line.Each("\nab 1=", func(l *line.Line) {
			if !l.Ended() {
				l.Name()
				l.Blanks()
				read(l)
			}
		})
		if f != (api.Fault{Err: api.ErrForm, At: 4}) {
			t.Errorf("%s: it is %v", what, f)
		}
	}
}

// Labels come in their order, as they are told; they end where no name comes.
func TestLabels(t *testing.T) {
	for s, want := range map[string][]api.Label{
		"":                         nil,
		" \t":                      nil,
		"}":                        nil,
		" ,":                       nil,
		"1":                        nil,
		`b="c"`:                    {{Name: "b", Value: "c"}},
		` b = "c" , `:              {{Name: "b", Value: "c"}},
		`b="c",a="\\\"\n",b="",`:   {{Name: "b", Value: "c"}, {Name: "a", Value: "\\\"\n"}, {Name: "b", Value: ""}},
		`b="c" d="e"`:              {{Name: "b", Value: "c"}},
		`b="` + "\x00\xff}," + `"`: {{Name: "b", Value: "\x00\xff},"}},
	} {
		var got []api.Label
		f := line.Each(s+"\n", func(l *line.Line) { got = l.Labels() })
		if !slices.Equal(got, want) || f != (api.Fault{}) {
			t.Errorf("%q: it is %q %v", s, got, f)
		}
	}
	for s, at := range map[string]int{"b": 1, "b ": 2, "b=": 2, "b=c": 2, "b= ": 3, `b="`: 3, `b="c`: 4, `b="\`: 4, `b="\c"`: 4, `b="c",d`: 7, "b1,": 2, strings.Repeat("b", 41) + `="c"`: 40} {
		f := line.Each(s, func(l *line.Line) { l.Labels() })
		if f != (api.Fault{Err: api.ErrForm, At: at}) {
			t.Errorf("%q: it is %v, not at %d", s, f, at)
		}
	}
}
