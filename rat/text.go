package rat

import "plexus/api"

// Text returns the text of a (B5).
func Text(a api.Frac) string {
	text := decimal(size(a.N))
	if a.N < 0 {
		text = "-" + text
	}
	if a.D != 1 {
		text += "/" + decimal(size(a.D))
	}
	return text
}

// Parse returns the valid fraction whose text is s (B5).
func Parse(s string) (api.Frac, api.Errno) {
	top, bottom := cut(s)
	a := api.Frac{N: number(top), D: number(bottom)}
	// Reading is generous, since whatever else is read differs from its text.
	if !Valid(a) || Text(a) != s {
		return api.Frac{}, api.ErrForm
	}
	return a, api.OK
}

// decimal returns the decimal digits of n.
func decimal(n uint64) string {
	var digits [20]byte // 2^64 - 1 has 20
	first := len(digits) - 1
	for ; n >= 10; n /= 10 {
		digits[first] = '0' + byte(n%10)
		first--
	}
	digits[first] = '0' + byte(n)
	return string(digits[first:])
}

// cut returns what is before the first slash of s, and what is behind it, "1"
// if there is none.
func cut(s string) (top, bottom string) {
	for i := range len(s) {
		if s[i] == '/' {
			return s[:i], s[i+1:]
		}
	}
	return s, "1"
}

// number returns the number that s says, and 0 if it says none, or one that is
// greater than most in size.
func number(s string) int {
	digits := s
	if s != "" && s[0] == '-' {
		digits = s[1:]
	}
	n := 0
	for i := range len(digits) {
		d := int(digits[i]) - '0'
		// Ten times what fits may be more than an int has room for.
		if d < 0 || d > 9 || n > (most-d)/10 {
			return 0
		}
		n = 10*n + d
	}
	if len(digits) < len(s) {
		return -n
	}
	return n
}
