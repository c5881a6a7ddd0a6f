package octet

const hexDigits = "0123456789ABCDEF"

func Pair(c byte) string {
	pair := [2]byte{hexDigits[c>>4], hexDigits[c&15]}
	return string(pair[:])
}

// Byte holds at against the length less two, because a sum with the greatest offset would overflow.
func Byte(s string, at int) (byte, bool) {
	if at < 0 || at > len(s)-2 {
		return 0, false
	}
	high, ok := hexValue(s[at])
	if !ok {
		return 0, false
	}
	low, ok := hexValue(s[at+1])
	if !ok {
		return 0, false
	}
	return high<<4 | low, true
}

func hexValue(c byte) (byte, bool) {
	switch {
	case c >= '0' && c <= '9':
		return c - '0', true
	case c >= 'A' && c <= 'F':
		return c - 'A' + 10, true
	case c >= 'a' && c <= 'f':
		return c - 'a' + 10, true
	}
	return 0, false
}
