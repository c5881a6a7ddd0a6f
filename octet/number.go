package octet

// The most characters that a number takes: 19 digits and a sign.
const mostText = 20

// Any text of that many digits fits into 64 bits without a sign, so none of them overflows while it is read.
const mostDigits = 19

// The least number has no positive counterpart, so magnitudes are kept without a sign.
const leastMagnitude uint64 = 1 << 63

func Text(n int) string {
	var text [mostText]byte
	at := len(text)
	rest := uint64(n)
	if n < 0 {
		rest = -rest
	}
	for rest > 0 || at == len(text) { // 0 has a digit too
		at--
		text[at] = '0' + byte(rest%10)
		rest /= 10
	}
	if n < 0 {
		at--
		text[at] = '-'
	}
	return string(text[at:])
}

// Number refuses whatever Text doesn't write, so that no two texts are the same number.
func Number(s string) (int, bool) {
	if s == "" || s[0] != '-' {
		size, ok := magnitude(s)
		if !ok || size >= leastMagnitude {
			return 0, false
		}
		return int(size), true
	}
	size, ok := magnitude(s[1:])
	if !ok || size == 0 || size > leastMagnitude {
		return 0, false
	}
	return int(-size), true
}

func magnitude(s string) (uint64, bool) {
	if s == "" || len(s) > mostDigits || s[0] == '0' && len(s) > 1 {
		return 0, false
	}
	var size uint64
	for i := range len(s) {
		if s[i] < '0' || s[i] > '9' {
			return 0, false
		}
		size = size*10 + uint64(s[i]-'0')
	}
	return size, true
}
