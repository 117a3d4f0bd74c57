package sha

const digits = "0123456789abcdef"

// Hex is two small digits a byte of b.
func Hex(b []byte) string {
	s := make([]byte, 0, 2*len(b))
	for _, c := range b {
		s = append(s, digits[c>>4], digits[c&15])
	}
	return string(s)
}

// Unhex is the bytes whose Hex is s.
func Unhex(s string) ([]byte, bool) {
	if len(s)%2 != 0 {
		return nil, false
	}
	b := make([]byte, 0, len(s)/2)
	for i := 0; i < len(s); i += 2 {
		high, isHigh := digit(s[i])
		low, isLow := digit(s[i+1])
		if !isHigh || !isLow {
			return nil, false
		}
		b = append(b, high<<4|low)
	}
	return b, true
}

// digit is the number that a small hexadecimal digit stands for.
func digit(c byte) (byte, bool) {
	switch {
	case '0' <= c && c <= '9':
		return c - '0', true
	case 'a' <= c && c <= 'f':
		return c - 'a' + 10, true
	}
	return 0, false
}
