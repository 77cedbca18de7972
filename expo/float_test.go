package expo_test

import (
	"math"
	"math/big"
	"math/rand"
	"regexp"
	"strconv"
	"strings"
	"testing"

	"gleaner/api"
	"gleaner/expo"
)

// F1: numbers, by their bits.
func TestFloat(t *testing.T) {
	nulls := func(n int) string { return strings.Repeat("0", n) }
	for s, want := range map[string]uint64{
		"NaN":                                 api.BitsNone,
		"Inf":                                 api.BitsMore,
		"+Inf":                                api.BitsMore,
		"-Inf":                                api.BitsLess,
		"0":                                   0,
		"+0":                                  0,
		"-0":                                  1 << 63,
		"-0.0e9":                              1 << 63,
		".0":                                  0,
		"-0.":                                 1 << 63,
		"0e9999":                              0,
		"1":                                   0x3ff0000000000000,
		"-1":                                  0xbff0000000000000,
		"+1":                                  0x3ff0000000000000,
		"007":                                 0x401c000000000000,
		"7.":                                  0x401c000000000000,
		"7.000":                               0x401c000000000000,
		".7e1":                                0x401c000000000000,
		".7E+1":                               0x401c000000000000,
		"70e-1":                               0x401c000000000000,
		"7e0000":                              0x401c000000000000,
		"7e-0000":                             0x401c000000000000,
		"-700E-2":                             0xc01c000000000000,
		"0.5":                                 0x3fe0000000000000,
		"0.1":                                 0x3fb999999999999a,
		"1e9999":                              api.BitsMore,
		"-1e9999":                             api.BitsLess,
		"+.1e309":                             0x7fe1ccf385ebc8a0,
		"1e309":                               api.BitsMore,
		"-1e309":                              api.BitsLess,
		"1e-9999":                             0,
		"-1e-9999":                            1 << 63,
		"1.7976931348623157e308":              0x7fefffffffffffff,
		"1.7976931348623158e308":              0x7fefffffffffffff,
		"1.7976931348623159e308":              api.BitsMore,
		"-1.7976931348623159e308":             api.BitsLess,
		"1797693134862315807938e287":          api.BitsMore,
		"1797693134862315807937e287":          0x7fefffffffffffff,
		"2.2250738585072014e-308":             0x0010000000000000,
		"2.2250738585072011e-308":             0x000fffffffffffff,
		"5e-324":                              1,
		"-5e-324":                             1<<63 + 1,
		"3e-324":                              1,
		"2e-324":                              0,
		"-2e-324":                             1 << 63,
		"9007199254740992":                    0x4340000000000000,
		"9007199254740993":                    0x4340000000000000, // as near to either: the last bit is 0
		"9007199254740994":                    0x4340000000000001,
		"9007199254740995":                    0x4340000000000002,
		"9007199254740993." + nulls(82) + "1": 0x4340000000000001,
		"9007199254740992." + strings.Repeat("9", 83): 0x4340000000000000,
		"-9007199254740995." + nulls(80):              0xc340000000000002,
		nulls(99) + "1":                               0x3ff0000000000000,
		"." + nulls(94) + "1e95":                      0x3ff0000000000000,
		strings.Repeat("1", 100):                      0x5480417d76bd1f8b,
	} {
		if n, e := expo.Float(s); n != want || e != api.OK {
			t.Errorf("Float(%q) is %016x %d, not %016x", s, n, e, want)
		}
	}
}

// F1: what is no number, and what is too long, whether it is one or not.
func TestFloatWrong(t *testing.T) {
	for _, s := range []string{
		"", " ", "+", "-", ".", "+.", "-.", "e", "e1", ".e1", "+e1", "1e", "1e+", "1e-", "1E", "1.e", "1e12345", "1e-00000", "1e1.", "1e.1", "1e1.5", "1e++1", "1e1e1", "1ee1",
		"++1", "--1", "+-1", "-+1", "1+", "1-", "1+1", "1.1.1", "1..", "..1", "1,5", "1_0", "0x1", "0x1p4", "0b1", "1p4", "1f", "1 ", " 1", "1\t", "1\n", "\x001", "1\x00", "1\xff", "\xd9\xa1",
		"nan", "NAN", "Nan", "+NaN", "-NaN", "NaN ", "inf", "INF", "+inf", "-inf", "++Inf", "Infinity", "+Infinity", "infinity", "Inf1", "1Inf", "In", "Na",
	} {
		if n, e := expo.Float(s); n != 0 || e != api.ErrForm {
			t.Errorf("Float(%q) is %016x %d", s, n, e)
		}
	}
	for _, s := range []string{strings.Repeat("1", 101), strings.Repeat("0", 101), strings.Repeat("x", 101), strings.Repeat(" ", 20001), "1e" + strings.Repeat("0", 99), "1." + strings.Repeat("0", 99)} {
		if n, e := expo.Float(s); n != 0 || e != api.ErrMany {
			t.Errorf("Float of %d bytes is %016x %d", len(s), n, e)
		}
		if n, e := expo.Float(s[:100]); e == api.ErrMany {
			t.Errorf("Float of 100 bytes is %016x %d", n, e)
		}
	}
}

var number = regexp.MustCompile(`^(?:NaN|[+-]?Inf|[+-]?(?:[0-9]+\.?[0-9]*|\.[0-9]+)(?:[eE][+-]?[0-9]{1,4})?)$`)

// F1: all short texts of what numbers are made of: those that are numbers, and those that are none.
func TestFloatForm(t *testing.T) {
	texts := []string{""}
	for from := 0; len(texts[from]) < 6; from++ {
		for _, c := range "05.e-+" {
			texts = append(texts, texts[from]+string(c))
		}
	}
	r := rand.New(rand.NewSource(1))
	for range 100000 {
		b := make([]byte, r.Intn(12))
		for i := range b {
			b[i] = "019.eE+-NaInf x"[r.Intn(15)]
		}
		texts = append(texts, string(b))
	}
	for _, s := range texts {
		want := api.OK
		if !number.MatchString(s) {
			want = api.ErrForm
		}
		if n, e := expo.Float(s); e != want || e != api.OK && n != 0 {
			t.Fatalf("Float(%q) is %016x %d, not %d", s, n, e, want)
		}
	}
}

// exact: the number that a text tells, without its sign.
func exact(s string) *big.Rat {
	x, _ := new(big.Rat).SetString(strings.TrimLeft(s, "+-"))
	return x
}

// held: a number, from 0 on, by its bits; what is beyond is as if there were one more.
func held(bits uint64) *big.Rat {
	if bits == api.BitsMore {
		return new(big.Rat).SetInt(new(big.Int).Lsh(big.NewInt(1), 1024))
	}
	return new(big.Rat).SetFloat64(math.Float64frombits(bits))
}

// nearest: the bits of the nearest number, looked for among all of them.
func nearest(x *big.Rat) uint64 {
	below, above := uint64(0), uint64(api.BitsMore)
	if x.Cmp(held(above)) >= 0 {
		return above
	}
	for above-below > 1 {
		between := below + (above-below)/2
		if held(between).Cmp(x) <= 0 {
			below = between
		} else {
			above = between
		}
	}
	down, up := new(big.Rat).Sub(x, held(below)), new(big.Rat).Sub(held(above), x)
	if c := down.Cmp(up); c < 0 || c == 0 && below%2 == 0 {
		return below
	}
	return above
}

func holdFloat(t *testing.T, s string) {
	t.Helper()
	if len(s) > 100 {
		return
	}
	want := nearest(exact(s))
	if s[0] == '-' {
		want |= 1 << 63
	}
	if n, e := expo.Float(s); n != want || e != api.OK {
		t.Fatalf("Float(%q) is %016x %d, not %016x", s, n, e, want)
	}
}

// F1: the nearest number, held against reckoning without any loss.
func TestFloatNearest(t *testing.T) {
	r := rand.New(rand.NewSource(2))
	digits := func(n int) string {
		b := make([]byte, n)
		for i := range b {
			b[i] = byte('0' + r.Intn(10))
		}
		return string(b)
	}
	for range 3000 {
		s := []string{"", "-", "+"}[r.Intn(3)] + digits(1+r.Intn(25))
		if r.Intn(2) == 0 {
			s += "." + digits(r.Intn(60))
		}
		switch r.Intn(4) {
		case 0:
			s += "e" + []string{"", "-", "+"}[r.Intn(3)] + digits(1+r.Intn(2))
		case 1:
			s += "E" + []string{"", "-"}[r.Intn(2)] + []string{"2", "3", "0"}[r.Intn(3)] + digits(2)
		}
		holdFloat(t, s)
	}
}

// F1: what is just between two numbers, and what is next to that.
func TestFloatBetween(t *testing.T) {
	r := rand.New(rand.NewSource(3))
	for range 1500 {
		bits := uint64(1023-20+r.Intn(200))<<52 | r.Uint64()>>12
		x := new(big.Rat).Add(held(bits), held(bits+1))
		s := strings.TrimRight(x.Mul(x, big.NewRat(1, 2)).FloatString(100), "0")
		if strings.HasSuffix(s, ".") {
			s += "0"
		}
		holdFloat(t, s)
		holdFloat(t, "-"+s)
		holdFloat(t, s+"0001")
		last := len(s) - 1
		if s[last] != '0' {
			holdFloat(t, s[:last]+string(s[last]-1)+"9999")
		}
	}
	for _, s := range []string{"2.4703282292062327208299439634110864618e-324", "2.4703282292062328e-324", "7.4109846876186981626485318930233205854758970392148714663837852375101326090531312779794975454245398856e-324", "2.2250738585072011360574097967091319759348195463516456480234261097248222220210769455165295239081350e-308"} {
		holdFloat(t, s)
	}
}

// F1: what the library writes of any bits is read as these.
func TestFloatAgain(t *testing.T) {
	r := rand.New(rand.NewSource(4))
	for range 20000 {
		bits := r.Uint64()
		if bits>>52&2047 == 2047 {
			continue
		}
		for _, form := range []byte("gGeE") {
			s := strconv.FormatFloat(math.Float64frombits(bits), form, -1, 64)
			if n, e := expo.Float(s); n != bits || e != api.OK {
				t.Fatalf("Float(%q) is %016x %d, not %016x", s, n, e, bits)
			}
		}
	}
}
