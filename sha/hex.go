package sha

const digits = "0123456789abcdef"

// Hex is b in digits, two small ones a byte.
func Hex(b []byte) string {
	s := make([]byte, 0, 2*len(b))
	for _, c := range b {
		s = append(s, digits[c>>4], digits[c&15])
	}
	return string(s)
}

// Unhex is the bytes of which s is the Hex; false if there are none.
func Unhex(s string) ([]byte, bool) {
	if len(s)%2 != 0 {
		return nil, false
	}
	b := make([]byte, len(s)/2)
	for i := range b {
		high, isHigh := digitOf(s[2*i])
		low, isLow := digitOf(s[2*i+1])
		if !isHigh || !isLow {
			return nil, false
		}
		b[i] = high<<4 | low
	}
	return b, true
}

// digitOf is the number that c stands for. Great letters stand for none: a
// text of digits has one form only.
func digitOf(c byte) (byte, bool) {
	switch {
	case c >= '0' && c <= '9':
		return c - '0', true
	case c >= 'a' && c <= 'f':
		return c - 'a' + 10, true
	}
	return 0, false
}
