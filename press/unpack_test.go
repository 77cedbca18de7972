package press_test

import (
	"encoding/hex"
	"strings"
	"testing"

	"gleaner/api"
	"gleaner/press"
	"gleaner/wire"
)

// bytesOf a text that is told to the base of 16; blanks do not matter.
func bytesOf(t *testing.T, s string) string {
	t.Helper()
	b, err := hex.DecodeString(strings.ReplaceAll(s, " ", ""))
	if err != nil {
		t.Fatal(err)
	}
	return string(b)
}

// told is a packed text of n bytes: their number, and elements.
func told(n int, elements ...string) string {
	return wire.Number(uint64(n)) + strings.Join(elements, "")
}

// letters is a text in which each two bytes stand but once.
func letters(n int) string {
	b := make([]byte, n)
	for i := range b {
		b[i] = byte(i % 251 * (i/251 + 1))
	}
	return string(b)
}

// plain: an element of bytes as they are, how many of them in so many bytes.
func plain(s string, size int) string {
	n := len(s) - 1
	if size == 0 {
		return string([]byte{byte(n << 2)}) + s
	}
	b := []byte{byte(59+size) << 2}
	for i := range size {
		b = append(b, byte(n>>(8*i)))
	}
	return string(b) + s
}

// far: an element of bytes from back, how far in 2 or 4 bytes.
func far(n, back, size int) string {
	b := []byte{byte((n-1)<<2 | 1 + size/2)}
	if size == 4 {
		b[0] = byte((n-1)<<2 | 3)
	}
	for i := range size {
		b = append(b, byte(back>>(8*i)))
	}
	return string(b)
}

// near: an element of 4 to 11 bytes from back.
func near(n, back int) string {
	return string([]byte{byte(1 | (n-4)<<2 | back>>8<<5), byte(back)})
}

// from: what n bytes from back make of a text.
func from(s string, n, back int) string {
	for range n {
		s += s[len(s)-back : len(s)-back+1]
	}
	return s
}

// B1, B2: each kind of element, at its bounds.
func TestUnpack(t *testing.T) {
	long := letters(5000)
	type pair struct{ packed, text string }
	cases := []pair{
		{"\x00", ""},
		{"\x80\x00", ""},
		{"\x01\x00a", "a"},
		{"\x81\x80\x00\x00a", "a"},
		{"\x02\x00a\x00b", "ab"},
		{"\x0c\x08abc\x15\x03", "abcabcabcabc"},
	}
	for _, n := range []int{1, 2, 59, 60} {
		cases = append(cases, pair{told(n, plain(long[:n], 0)), long[:n]})
	}
	for _, n := range []int{1, 60, 61, 64, 255, 256} {
		for size := 1; size <= 4; size++ {
			cases = append(cases, pair{told(n, plain(long[:n], size)), long[:n]})
		}
	}
	for _, n := range []int{257, 5000} {
		for size := 2; size <= 4; size++ {
			cases = append(cases, pair{told(n, plain(long[:n], size)), long[:n]})
		}
	}
	for _, n := range []int{4, 5, 11} {
		for _, back := range []int{1, 3, n, 255, 256, 2047} {
			cases = append(cases, pair{told(5000+n, plain(long, 2), near(n, back)), from(long, n, back)})
		}
	}
	for _, n := range []int{1, 3, 4, 63, 64} {
		for _, back := range []int{1, 2, 255, 256, 4999, 5000} {
			for _, size := range []int{2, 4} {
				cases = append(cases, pair{told(5000+n, plain(long, 2), far(n, back, size)), from(long, n, back)})
			}
		}
	}
	for _, c := range cases {
		for _, most := range []int{len(c.text), len(c.text) + 1, api.MaxText} {
			if s, e := press.Unpack(c.packed, most); s != c.text || e != api.OK {
				t.Errorf("Unpack(%.30x, %d) is %d bytes, %d", c.packed, most, len(s), e)
			}
		}
		if len(c.text) > 0 {
			if s, e := press.Unpack(c.packed, len(c.text)-1); s != "" || e != api.ErrMany {
				t.Errorf("Unpack(%.30x, %d) is %d bytes, %d", c.packed, len(c.text)-1, len(s), e)
			}
		}
		cutOff(t, c.packed)
	}
}

// cutOff: a packed text that ends earlier is none.
func cutOff(t *testing.T, packed string) {
	t.Helper()
	for k := range len(packed) {
		if k > 50 && k < len(packed)-20 {
			continue
		}
		if s, e := press.Unpack(packed[:k], api.MaxText); s != "" || e != api.ErrForm {
			t.Errorf("Unpack(%.30x) without its last %d bytes is %d bytes, %d", packed, len(packed)-k, len(s), e)
		}
	}
}

// B2: a text may have MaxText bytes.
func TestUnpackLongest(t *testing.T) {
	long := letters(api.MaxText)
	if s, e := press.Unpack(told(api.MaxText, plain(long, 2)), api.MaxText); s != long || e != api.OK {
		t.Errorf("%d bytes, %d", len(s), e)
	}
	if s, e := press.Unpack(told(api.MaxText, plain(long[:1], 0), far(1, 1, 4), plain(long[2:], 4)), api.MaxText); len(s) != api.MaxText || e != api.OK {
		t.Errorf("%d bytes, %d", len(s), e)
	}
}

// B2: what is wrong, and what is named first, of several errors (P1).
func TestUnpackWrong(t *testing.T) {
	for _, c := range []struct {
		what, s string
		most    int
		want    api.Errno
	}{
		{"most below 0", "00", -1, api.ErrRange},
		{"most too great", "00", api.MaxText + 1, api.ErrRange},
		{"the least most", "00", -1 << 63, api.ErrRange},
		{"the greatest most", "00", 1<<63 - 1, api.ErrRange},
		{"most, ahead of the number", "", -1, api.ErrRange},
		{"no number", "", 9, api.ErrForm},
		{"a number that does not end", "80", 9, api.ErrForm},
		{"a number that is too great", "ffffffffffffffffff02 00", 9, api.ErrForm},
		{"a number that is too long", "8080808080808080808000", 9, api.ErrForm},
		{"more than most", "02 00 61", 1, api.ErrMany},
		{"as many as may be", "ffffffffffffffffff01 00 61", api.MaxText, api.ErrMany},
		{"more than any int", "80808080808080808001", api.MaxText, api.ErrMany},
		{"more than MaxText", "a19c01 00 61", api.MaxText, api.ErrMany},
		{"more than most, and an element that ends too early", "0a 04", 9, api.ErrMany},
		{"fewer than told", "02 00 61", 9, api.ErrForm},
		{"nothing, though told", "01", 9, api.ErrForm},
		{"more than told", "01 04 6162", 9, api.ErrForm},
		{"more than told, of nothing", "00 00 61", 9, api.ErrForm},
		{"an element behind all of them", "01 00 61 00 62", 9, api.ErrForm},
		{"half an element behind all of them", "01 00 61 02", 9, api.ErrForm},
		{"bytes end too early", "03 08 6162", 9, api.ErrForm},
		{"how many ends too early, of 1", "03 f0", 9, api.ErrForm},
		{"how many ends too early, of 2", "03 f4 00", 9, api.ErrForm},
		{"how many ends too early, of 3", "03 f8 00 00", 9, api.ErrForm},
		{"how many ends too early, of 4", "03 fc 00 00 00", 9, api.ErrForm},
		{"as many bytes as can be told", "03 fc ffffffff 61", 9, api.ErrForm},
		{"near: how far ends too early", "05 00 61 01", 9, api.ErrForm},
		{"far: how far ends too early", "05 00 61 0e 01", 9, api.ErrForm},
		{"farer: how far ends too early", "05 00 61 0f 01 00 00", 9, api.ErrForm},
		{"near: back 0", "05 00 61 01 00", 9, api.ErrForm},
		{"far: back 0", "05 00 61 0e 0000", 9, api.ErrForm},
		{"farer: back 0", "05 00 61 0f 00000000", 9, api.ErrForm},
		{"near: too far", "05 00 61 01 02", 9, api.ErrForm},
		{"near: much too far", "05 00 61 e1 01", 9, api.ErrForm},
		{"far: too far", "05 00 61 0e 0200", 9, api.ErrForm},
		{"far: much too far", "05 00 61 0e 0101", 9, api.ErrForm},
		{"farer: too far", "05 00 61 0f 02000000", 9, api.ErrForm},
		{"farer: much too far", "05 00 61 0f 01000001", 9, api.ErrForm},
		{"farer: as far as can be told", "05 00 61 0f ffffffff", 9, api.ErrForm},
		{"back of nothing", "04 01 01", 9, api.ErrForm},
		{"near: more than told", "04 00 61 01 01", 9, api.ErrForm},
		{"far: more than told", "04 00 61 0e 0100", 9, api.ErrForm},
		{"farer: more than told", "04 00 61 0f 01000000", 9, api.ErrForm},
	} {
		if s, e := press.Unpack(bytesOf(t, c.s), c.most); s != "" || e != c.want {
			t.Errorf("%s: it is %q %d, not %d", c.what, s, e, c.want)
		}
	}
}
