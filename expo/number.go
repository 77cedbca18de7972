package expo

import "gleaner/api"

// How many bytes a number has at most; how many digits its exponent, and a time.
const (
	maxNumber   = 100
	maxExponent = 4
	maxTime     = 16
)

// isNumber: is a text a number by digits?
func isNumber(s string) bool {
	ahead, s := digits(unsigned(s))
	behind := 0
	if s != "" && s[0] == '.' {
		behind, s = digits(s[1:])
	}
	if ahead+behind == 0 {
		return false
	}
	return s == "" || isExponent(s)
}

func isExponent(s string) bool {
	if s[0] != 'e' && s[0] != 'E' {
		return false
	}
	n, rest := digits(unsigned(s[1:]))
	return n >= 1 && n <= maxExponent && rest == ""
}

// unsigned: a text without the sign that perhaps begins it.
func unsigned(s string) string {
	if s != "" && (s[0] == '+' || s[0] == '-') {
		return s[1:]
	}
	return s
}

// digits at a text's beginning: how many, and what is behind them.
func digits(s string) (int, string) {
	n := 0
	for n < len(s) && s[n] >= '0' && s[n] <= '9' {
		n++
	}
	return n, s[n:]
}

// time by its digits.
func time(s string) (int, api.Errno) {
	below := s != "" && s[0] == '-'
	if below {
		s = s[1:]
	}
	n, rest := digits(s)
	if n < 1 || n > maxTime || rest != "" {
		return 0, api.ErrForm
	}
	t := 0
	for i := range n {
		t = 10*t + int(s[i]-'0')
	}
	if t > api.MaxTime {
		return 0, api.ErrRange
	}
	if below {
		return -t, api.OK
	}
	return t, api.OK
}
