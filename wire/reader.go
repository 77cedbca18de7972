package wire

import (
	"strings"

	"gleaner/api"
)

// field of a text: its head; its number, of wire types 0 and 1; its bytes, of wire type 2.
type field struct {
	head   uint64
	number uint64
	bytes  string
}

// eachField hands the fields of a text to a function, in order, those to be passed over, too: which ones these are is for the function to say.
func eachField(s string, take func(f field)) {
	for len(s) > 0 {
		var f field
		f.head, s = cutHead(s)
		switch f.head % 8 {
		case typeNumber:
			f.number, s = cutNumber(s)
		case typeEight:
			var b string
			b, s = cut(s, 8)
			f.number = lowestFirst(b)
		case typeBytes:
			var n uint64
			n, s = cutNumber(s)
			f.bytes, s = cut(s, n)
		case typeFour:
			_, s = cut(s, 4)
		default:
			panic(api.ErrForm)
		}
		take(f)
	}
}

// cutHead: the head of a field, and what is behind it.
func cutHead(s string) (uint64, string) {
	head, rest := cutNumber(s)
	if head/8 < 1 || head/8 > maxField {
		panic(api.ErrForm)
	}
	return head, rest
}

// cutNumber: the number at a text's beginning, and what is behind it.
func cutNumber(s string) (uint64, string) {
	n, size, e := ReadNumber(s)
	if e != api.OK {
		panic(api.ErrForm)
	}
	return n, s[size:]
}

// cut: the first n bytes of a text, and what is behind them.
func cut(s string, n uint64) (string, string) {
	// A number may be greater than any int: it is held against the text's length ahead of being made one.
	if n > uint64(len(s)) {
		panic(api.ErrForm)
	}
	return s[:n], s[n:]
}

// lowestFirst: the number that some bytes make.
func lowestFirst(s string) uint64 {
	var n uint64
	for i := len(s) - 1; i >= 0; i-- {
		n = n<<8 | uint64(s[i])
	}
	return n
}

func readAll(s string) []api.Series {
	var l []api.Series
	eachField(s, func(f field) {
		if f.head == headSeries {
			l = append(l, readSeries(f.bytes))
		}
	})
	return l
}

func readSeries(s string) api.Series {
	var x api.Series
	eachField(s, func(f field) {
		switch f.head {
		case headLabel:
			x.Labels = append(x.Labels, readLabel(f.bytes))
		case headSample:
			x.Samples = append(x.Samples, readSample(f.bytes))
		}
	})
	return x
}

func readLabel(s string) api.Label {
	var x api.Label
	eachField(s, func(f field) {
		switch f.head {
		case headName:
			x.Name = f.bytes
		case headValue:
			x.Value = f.bytes
		}
	})
	// A piece of the text would keep all of it.
	return api.Label{Name: strings.Clone(x.Name), Value: strings.Clone(x.Value)}
}

func readSample(s string) api.Sample {
	var x api.Sample
	eachField(s, func(f field) {
		switch f.head {
		case headBits:
			x.Bits = f.number
		case headTime:
			x.Time = int(int64(f.number))
		}
	})
	return x
}
