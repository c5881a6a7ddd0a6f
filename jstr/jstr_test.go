package jstr_test

import (
	"encoding/json"
	"fmt"
	"math"
	"math/rand"
	"regexp"
	"strconv"
	"strings"
	"testing"
	"unicode/utf8"
	"unsafe"

	"nuncio/api"
	"nuncio/jstr"
)

const unknown = "\xef\xbf\xbd"

// encoding writes r as chapter 2 has it.
func encoding(r rune) string {
	return string(utf8.AppendRune(nil, r))
}

// The runes whose escapes have two bytes, and what follows the backslash there.
var short = map[rune]string{34: `"`, 92: `\`, 8: "b", 12: "f", 10: "n", 13: "r", 9: "t"}

// formOf is the chapter's definition of the escaped form of a rune.
func formOf(r rune) string {
	if c, ok := short[r]; ok {
		return `\` + c
	}
	switch {
	case r < 32, r == 38, r == 60, r == 62, r >= 127 && r <= 159, r == 8232, r == 8233:
		return fmt.Sprintf(`\u%04X`, r)
	}
	return encoding(r)
}

// writingOf is the chapter's definition of what Write returns.
func writingOf(s string) string {
	var b strings.Builder
	for _, r := range s { // a bad byte is 65533 here too
		b.WriteString(formOf(r))
	}
	return b.String()
}

var (
	twoBytes  = regexp.MustCompile(`\A\\(["\\/bfnrt])`)
	digits    = `([0-9A-Fa-f]{4})`
	oneNumber = regexp.MustCompile(`\A\\u` + digits)
	twoOfThem = regexp.MustCompile(`\A\\u([Dd][89ABab][0-9A-Fa-f]{2})\\u([Dd][C-Fc-f][0-9A-Fa-f]{2})`)
	denoted   = map[string]rune{`"`: 34, `\`: 92, "/": 47, "b": 8, "f": 12, "n": 10, "r": 13, "t": 9}
)

func hex(s string) rune {
	n, err := strconv.ParseUint(s, 16, 16)
	if err != nil {
		panic(err)
	}
	return rune(n)
}

// runeAt is the chapter's definition of what One decodes; the size is 0 where it returns false.
func runeAt(s string, at int) (rune, int) {
	if at < 0 || at >= len(s) {
		return 0, 0
	}
	rest := s[at:]
	if m := twoBytes.FindStringSubmatch(rest); m != nil {
		return denoted[m[1]], 2
	}
	if m := twoOfThem.FindStringSubmatch(rest); m != nil {
		return 65536 + 1024*(hex(m[1])-55296) + hex(m[2]) - 56320, 12
	}
	if m := oneNumber.FindStringSubmatch(rest); m != nil {
		if n := hex(m[1]); n < 55296 || n > 57343 {
			return n, 6
		}
		return 0, 0
	}
	r, size := utf8.DecodeRuneInString(rest)
	if r == utf8.RuneError && size == 1 || r < 32 || r == 34 || r == 92 {
		return 0, 0
	}
	return r, size
}

// readingOf is the chapter's definition of what Read returns.
func readingOf(s string) (string, bool) {
	var b strings.Builder
	for at := 0; at < len(s); {
		r, size := runeAt(s, at)
		if size == 0 {
			return "", false
		}
		b.WriteString(encoding(r))
		at += size
	}
	return b.String(), true
}

// words calls do with each text of at most most of the letters.
func words(letters []string, most int, do func(string)) {
	var grow func(w string, n int)
	grow = func(w string, n int) {
		do(w)
		if n == most {
			return
		}
		for _, c := range letters {
			grow(w+c, n+1)
		}
	}
	grow("", 0)
}

// random returns texts of all numbers of letters up to most.
func random(seed int64, most int, letters []string) []string {
	r := rand.New(rand.NewSource(seed))
	var l []string
	for n := range most + 1 {
		var b strings.Builder
		for range n {
			b.WriteString(letters[r.Intn(len(letters))])
		}
		l = append(l, b.String())
	}
	return l
}

func everyByte() []string {
	l := make([]string, 256)
	for i := range l {
		l[i] = string([]byte{byte(i)})
	}
	return l
}

// The runes at which an escaped form, or the length of an encoding, changes.
var edges = []rune{0, 1, 7, 8, 9, 10, 11, 12, 13, 14, 31, 32, 33, 34, 35, 37, 38, 39, 47, 59, 60, 61, 62, 63, 91, 92, 93, 126, 127, 128, 159, 160, 2047, 2048, 8231, 8232, 8233, 8234, 55295, 57344, 65533, 65535, 65536, 1114111}

// Bad bytes: alone, encodings that are cut off, too long or of no rune.
var bad = []string{
	"\x80", "\xbf", "\xc0", "\xc1", "\xc3", "\xe2", "\xf0", "\xf4", "\xf5", "\xfe", "\xff",
	"\xe2\x80", "\xf0\x9f", "\xf0\x9f\x94", "\xc3\xc3", "\xff\xff\xff", "\x80\x80",
	"\xc0\xa2", "\xc1\x9c", "\xe0\x80\xa2", "\xe0\x9f\xbf", "\xf0\x80\x80\xa2", "\xf0\x8f\xbf\xbf", "\xf8\x80\x80\x80\xa2",
	"\xed\xa0\x80", "\xed\xaf\xbf", "\xed\xb0\x80", "\xed\xbf\xbf", "\xed\xa0\xbd\xed\xb4\x94", "\xf4\x90\x80\x80", "\xf7\xbf\xbf\xbf",
}

// pieces are of all that Write and Read look at.
func pieces() []string {
	l := append([]string{"\\", "u", "\"", "D83D", "dd14", "\\u", "00", "0041", "\\uD83D", "\\uDD14", "\\ud83d\\udd14", "\\u2028", "\\n", "\\/", "\\\\", "\\\"", "n", "U", "é", "\U0001f514"}, bad...)
	for _, r := range edges {
		l = append(l, encoding(r))
	}
	return l
}

// texts are of any bytes, of the pieces above, and of escapes and what looks like some.
func texts() []string {
	l := random(71, 400, everyByte())
	l = append(l, random(72, 300, pieces())...)
	l = append(l, random(73, 300, strings.Split(`\ \u u n b " / D d 8 C c 0 f a < & >`, " "))...)
	l = append(l, random(74, 200, strings.Split(`\n \t \" \\ \/ \u0041 \uFFFF \u003c \uD83D\uDD14 \ud800\udc00 a é 🔔`, " "))...)
	return append(l, strings.Join(everyByte(), ""), strings.Repeat(strings.Join(everyByte(), ""), 2))
}

func writes(t *testing.T, s, want string) {
	t.Helper()
	if got := jstr.Write(s); got != want {
		t.Errorf("Write(%.200q) = %.200q, want %.200q", s, got, want)
	}
}

func isOne(t *testing.T, s string, at int, r rune, size int) {
	t.Helper()
	if got, n, ok := jstr.One(s, at); got != r || n != size || ok != (size > 0) {
		t.Errorf("One(%.200q, %d) = %d, %d, %t, want %d, %d", s, at, got, n, ok, r, size)
	}
}

func reads(t *testing.T, s, want string) {
	t.Helper()
	if got, e := jstr.Read(s); got != want || e != api.OK {
		t.Errorf("Read(%.200q) = %.200q, %d, want %.200q", s, got, e, want)
	}
}

func refuses(t *testing.T, s string) {
	t.Helper()
	if got, e := jstr.Read(s); got != "" || e != api.ErrForm {
		t.Errorf("Read(%.200q) = %.200q, %d", s, got, e)
	}
}

// denotes expects one to stand for r wherever it stands, and to be read as its encoding.
func denotes(t *testing.T, one string, r rune) {
	t.Helper()
	for _, before := range []string{"", "a", "\\", "\\\\", "\\u", "\\u00", "\\uD83D", "\xc3", "\"", "\n", one} {
		for _, after := range []string{"", "a", "0", "\\", "\\n", "\\u", "\\u0041", "\\uD83D", "\\uDD14", "\xa9", "\xff", "\"", "\n", one} {
			isOne(t, before+one+after, len(before), r, len(one))
		}
	}
	want := encoding(r)
	reads(t, one, want)
	reads(t, "a"+one+"b", "a"+want+"b")
	reads(t, one+one, want+want)
	reads(t, `\n`+one+`\u0041\\`, "\n"+want+`A\`)
}

// none expects that One finds nothing where s begins.
func none(t *testing.T, s string) {
	t.Helper()
	isOne(t, s, 0, 0, 0)
	isOne(t, `a\n`+s, 3, 0, 0)
	refuses(t, s)
	refuses(t, "a"+s)
	refuses(t, `a\n`+s)
	refuses(t, s+`\nb`)
}

// P7.1

func TestWrite(t *testing.T) {
	for _, x := range [][2]string{
		{"", ""},
		{"a", "a"},
		{"a\"b\n", `a\"b\n`},
		{"<", `\u003C`},
		{"&", `\u0026`},
		{">", `\u003E`},
		{"</script>", `\u003C/script\u003E`},
		{`"`, `\"`},
		{`\`, `\\`},
		{"\b", `\b`},
		{"\f", `\f`},
		{"\n", `\n`},
		{"\r", `\r`},
		{"\t", `\t`},
		{"\x00", `\u0000`},
		{"\a\v", `\u0007\u000B`},
		{"\x0e\x1b\x1f", `\u000E\u001B\u001F`},
		{"\x7f", `\u007F`},
		{"\xc2\x80\xc2\x85\xc2\x9f\xc2\xa0", "\\u0080\\u0085\\u009F\xc2\xa0"},
		{"\xe2\x80\xa7\xe2\x80\xa8\xe2\x80\xa9\xe2\x80\xaa", "\xe2\x80\xa7\\u2028\\u2029\xe2\x80\xaa"},
		{" !/'`~", " !/'`~"},
		{"é€\U0001f514", "é€\U0001f514"},
		{unknown, unknown},
		// escapes are text like any other
		{`\n`, `\\n`},
		{`\\`, `\\\\`},
		{`\"`, `\\\"`},
		{`\u0041`, `\\u0041`},
		{`\/`, `\\/`},
		{"\r\n", `\r\n`},
		// bad bytes
		{"\xff", unknown},
		{"a\xff\"", "a" + unknown + `\"`},
		{"\xff\xfe\x80", unknown + unknown + unknown},
		{"\xc3", unknown},
		{"\xc3\n", unknown + `\n`},
		{"\xe2\x80", unknown + unknown},
		{"\xe2\x80<", unknown + unknown + `\u003C`},
		{"\xf0\x9f\x94", unknown + unknown + unknown},
		{"\xc0\xbc", unknown + unknown},
		{"\xe0\x80\xbc", unknown + unknown + unknown},
		{"\xed\xa0\x80", unknown + unknown + unknown},
		{"\xed\xa0\xbd\xed\xb4\x94", strings.Repeat(unknown, 6)},
		{"\xf4\x90\x80\x80", strings.Repeat(unknown, 4)},
	} {
		writes(t, x[0], x[1])
		writes(t, "a"+x[0], "a"+x[1])
		writes(t, x[0]+"b", x[1]+"b")
		writes(t, x[0]+" "+x[0], x[1]+" "+x[1])
	}
}

func TestWriteOfEdges(t *testing.T) {
	for _, x := range []struct {
		r    rune
		want string
	}{
		{0, `\u0000`}, {31, `\u001F`}, {32, " "}, {34, `\"`}, {38, `\u0026`}, {47, "/"}, {60, `\u003C`}, {62, `\u003E`}, {92, `\\`},
		{126, "~"}, {127, `\u007F`}, {128, `\u0080`}, {159, `\u009F`}, {160, "\xc2\xa0"},
		{8231, "\xe2\x80\xa7"}, {8232, `\u2028`}, {8233, `\u2029`}, {8234, "\xe2\x80\xaa"},
		{55295, "\xed\x9f\xbf"}, {57344, "\xee\x80\x80"}, {65533, "\xef\xbf\xbd"}, {65535, "\xef\xbf\xbf"}, {65536, "\xf0\x90\x80\x80"}, {1114111, "\xf4\x8f\xbf\xbf"},
	} {
		s := encoding(x.r)
		writes(t, s, x.want)
		writes(t, "\xff"+s+"\xc3", unknown+x.want+unknown)
		writes(t, "a"+s+s+"b", "a"+x.want+x.want+"b")
	}
}

func TestWriteOfEveryByte(t *testing.T) {
	for i, c := range everyByte() {
		want := c
		switch {
		case i >= 128:
			want = unknown
		case i == 8:
			want = `\b`
		case i == 9:
			want = `\t`
		case i == 10:
			want = `\n`
		case i == 12:
			want = `\f`
		case i == 13:
			want = `\r`
		case i == 34:
			want = `\"`
		case i == 92:
			want = `\\`
		case i < 32, i == 38, i == 60, i == 62, i == 127:
			want = fmt.Sprintf(`\u%04X`, i)
		}
		writes(t, c, want)
		writes(t, c+c, want+want)
		for _, around := range []string{"a", "\n", "<", "é", "\xff", `\`, "\U0001f514"} {
			beside := writingOf(around)
			writes(t, around+c+around, beside+want+beside)
		}
	}
}

func TestWriteOfEveryRune(t *testing.T) {
	for r := range rune(utf8.MaxRune + 1) {
		s := encoding(r) // that of 65533 for what is no rune
		want := formOf(r)
		if !utf8.ValidRune(r) {
			want = unknown
		}
		if got := jstr.Write(s); got != want {
			t.Fatalf("Write(%q), rune %d, = %q, want %q", s, r, got, want)
		}
	}
}

func TestWriteIsAsDefined(t *testing.T) {
	for _, c := range everyByte() {
		for _, d := range everyByte() {
			writes(t, c+d, writingOf(c+d))
		}
	}
	words([]string{"\"", "\\", "<", "\n", "\x7f", "\xc2", "\x85", "\xe2\x80", "\xa8", "a"}, 5, func(s string) { writes(t, s, writingOf(s)) })
	words(pieces(), 2, func(s string) { writes(t, s, writingOf(s)) })
	for _, s := range texts() {
		writes(t, s, writingOf(s))
	}
}

// P7.2

func TestOneByTwoBytes(t *testing.T) {
	for _, x := range []struct {
		one string
		r   rune
	}{{`\"`, 34}, {`\\`, 92}, {`\/`, 47}, {`\b`, 8}, {`\f`, 12}, {`\n`, 10}, {`\r`, 13}, {`\t`, 9}} {
		denotes(t, x.one, x.r)
	}
	for i, c := range everyByte() {
		if !strings.Contains(`"\/bfnrt`, c) {
			none(t, `\`+c)
			none(t, `\`+c+c)
		}
		if i != 'u' && !strings.Contains(`"\/bfnrt`, c) {
			none(t, `\`+c+"0041")
		}
	}
	for _, s := range []string{`\é`, `\ n`, `\N`, `\T`, `\v`, `\a`, `\0`, `\x41`, `\'`, `\&`, "\\\n", "\\\xc3\xa9", "\\\x00"} {
		none(t, s)
	}
	for _, before := range []string{"", "a", `\\`, `\n`, `\u0041`, "é"} {
		isOne(t, before+`\`, len(before), 0, 0)
		refuses(t, before+`\`)
	}
}

func TestOneByNumber(t *testing.T) {
	for _, x := range []struct {
		one string
		r   rune
	}{
		{`\u0000`, 0}, {`\u0001`, 1}, {`\u000a`, 10}, {`\u001f`, 31}, {`\u001F`, 31}, {`\u0020`, 32}, {`\u0022`, 34}, {`\u002F`, 47}, {`\u0041`, 65},
		{`\u005c`, 92}, {`\u005C`, 92}, {`\u007f`, 127}, {`\u0080`, 128}, {`\u00e9`, 233}, {`\u00E9`, 233}, {`\u07ff`, 2047}, {`\u0800`, 2048}, {`\u1234`, 0x1234},
		{`\u2028`, 8232}, {`\u5678`, 0x5678}, {`\u9abc`, 0x9abc}, {`\u9ABC`, 0x9abc}, {`\uaBcD`, 0xabcd}, {`\uABCD`, 0xabcd},
		{`\ud7ff`, 55295}, {`\uD7FF`, 55295}, {`\ue000`, 57344}, {`\uE000`, 57344}, {`\uf09F`, 0xf09f}, {`\ufffd`, 65533}, {`\uFFFE`, 65534}, {`\uffff`, 65535}, {`\uFFFF`, 65535}, {`\ufFfF`, 65535},
	} {
		denotes(t, x.one, x.r)
	}
	for _, s := range []string{
		// too few digits
		`\u`, `\u0`, `\u00`, `\u004`, `\ud`, `\uD8`, `\uD83`, `\u "`, `\u0041`[:5] + `\n`, `\u004\u0041`, `\u00\u0041`, `\u\u0041`, `\u"0041`, "\\u004\xff", "\\u00\xc3\xa9",
		// no digits, signs and such
		`\u004g`, `\u00g1`, `\u0g41`, `\ug041`, `\u004G`, `\uG041`, `\u+041`, `\u-041`, `\u 041`, `\u004 `, `\u0x41`, `\u00_1`, `\u{41}`, `\u{0041}`, `\u00é`, `\u٠٠٤١`, "\\u004\x00", "\\u\x000041",
		// letters in upper case
		`\U0041`, `\U00000041`, `\UD83D\UDD14`, `\uD83D\UDD14`, `\UD83D\uDD14`,
		// no backslash, or more between
		`\ u0041`, `\\u004`[1:], `\x0041`, `\u{1F514}`,
	} {
		none(t, s)
	}
	isOne(t, "u0041", 0, 'u', 1)
	isOne(t, `\\u0041`, 0, '\\', 2)
	isOne(t, `\\u0041`, 1, 'A', 6)
	reads(t, `\\u0041`, `\u0041`)
	reads(t, `\\\u0041`, `\A`)
	reads(t, `\u00411`, "A1")
}

func TestOneWithEveryByteForADigit(t *testing.T) {
	for _, escape := range []string{`\u0041`, `\uFfFf`, `\uabcd`, `\uE9e9`} {
		for i := 2; i < 6; i++ {
			for j, c := range everyByte() {
				s := escape[:i] + c + escape[i+1:]
				r, size := runeAt(s, 0)
				isOne(t, s, 0, r, size)
				isOne(t, "ab"+s+"0", 2, r, size)
				if !strings.Contains("0123456789ABCDEFabcdef", c) {
					isOne(t, s, 0, 0, 0)
					refuses(t, s)
				} else if j != 'd' && j != 'D' || i > 2 { // else it may be half of a pair
					reads(t, s, encoding(hex(s[2:])))
				}
			}
		}
	}
}

func TestOneByEveryNumber(t *testing.T) {
	for n := range rune(65536) {
		for _, s := range []string{fmt.Sprintf(`\u%04x`, n), fmt.Sprintf(`\u%04X`, n)} {
			want, size := n, 6
			if n >= 55296 && n <= 57343 {
				want, size = 0, 0
			}
			for _, after := range []string{"", "a", `\n`, `\u0041`} {
				if r, got, ok := jstr.One(s+after, 0); r != want || got != size || ok != (size > 0) {
					t.Fatalf("One(%q, 0) = %d, %d, %t", s+after, r, got, ok)
				}
			}
		}
	}
}

func TestOneByPair(t *testing.T) {
	for _, x := range []struct {
		one string
		r   rune
	}{
		{`\uD83D\uDD14`, 128276},
		{`\ud83d\udd14`, 128276},
		{`\uD83d\udD14`, 128276},
		{`\uD800\uDC00`, 65536},
		{`\uD800\uDFFF`, 66559},
		{`\uD801\uDC00`, 66560},
		{`\uDBFF\uDC00`, 1113088},
		{`\uDBFF\uDFFF`, 1114111},
		{`\ud800\udc00`, 65536},
		{`\udbff\udfff`, 1114111},
	} {
		denotes(t, x.one, x.r)
	}
	for _, first := range []string{`\uD800`, `\uD83D`, `\uDBFF`, `\ud800`, `\udbff`} {
		none(t, first)
		for _, after := range []string{
			"a", " ", "\\", `\"`, `\\`, `\/`, `\n`, `\b`, `\u`, `\uD`, `\uDC`, `\uDC0`, `\uDC0g`, `\uDG00`, `\ugC00`, `uDC00`, `DC00`, `\UDC00`, `\\uDC00`, `a\uDC00`, ` \uDC00`, `"\uDC00`, "\n\\uDC00",
			`\u0041`, `\u0000`, `\uD7FF`, `\uD800`, `\uD83D`, `\uDBFF`, `\uE000`, `\uFFFF`,
			"\xed\xb0\x80", "\xed\xb4\x94", "\xed\xbf\xbf", "\xf0\x9f\x94\x94", "é", "\xff", "\x00",
		} {
			none(t, first+after)
		}
		isOne(t, first+`\uDBFF\uDC00`, 0, 0, 0)
		isOne(t, first+`\uDBFF\uDC00`, 6, 1113088, 12)
	}
	for _, second := range []string{`\uDC00`, `\uDD14`, `\uDFFF`, `\udc00`, `\udfff`} {
		none(t, second)
		for _, after := range []string{"a", `\n`, `\u0041`, `\uD800`, `\uDBFF`, `\uDC00`, `\uDFFF`, `\uD83D\uDD14`} {
			none(t, second+after)
		}
		isOne(t, `\uD83D`+second, 6, 0, 0)
		refuses(t, `\uD83D\uDC00`+second)
		refuses(t, "\xed\xa0\xbd"+second)
	}
}

func TestOneByEveryPair(t *testing.T) {
	holds := func(first, second rune, form string) {
		s := fmt.Sprintf(form, first, second)
		want, size := rune(0), 0
		if second >= 56320 && second <= 57343 {
			want, size = 65536+1024*(first-55296)+(second-56320), 12
		}
		for _, after := range []string{"", "0", `\uDC00`} {
			if r, got, ok := jstr.One(s+after, 0); r != want || got != size || ok != (size > 0) {
				t.Fatalf("One(%q, 0) = %d, %d, %t", s+after, r, got, ok)
			}
		}
	}
	for first := rune(55296); first <= 56319; first++ {
		for second := rune(56320); second <= 57343; second += 13 {
			holds(first, second, `\u%04X\u%04x`)
		}
		for _, second := range []rune{0, 32, 55295, 55296, 56319, 56320, 57343, 57344, 65535} {
			holds(first, second, `\u%04x\u%04X`)
		}
	}
	for _, first := range []rune{55296, 55357, 56319} {
		for second := range rune(65536) {
			holds(first, second, `\u%04X\u%04X`)
		}
	}
}

func TestOneByEncoding(t *testing.T) {
	for r := range rune(utf8.MaxRune + 1) {
		if !utf8.ValidRune(r) {
			continue
		}
		s := encoding(r)
		want, size := r, len(s)
		if r < 32 || r == 34 || r == 92 {
			want, size = 0, 0
		}
		for _, x := range []string{s, s + "a", s + "\xff"} {
			if got, n, ok := jstr.One(x, 0); got != want || n != size || ok != (size > 0) {
				t.Fatalf("One(%q, 0) = %d, %d, %t", x, got, n, ok)
			}
		}
	}
	for _, r := range []rune{32, 38, 47, 60, 62, 117, 126, 127, 128, 159, 160, 8231, 8232, 8233, 8234, 55295, 57344, 65533, 65535, 65536, 1114111} {
		denotesBetween(t, r)
	}
	for _, s := range bad {
		none(t, s)
		none(t, s+"a")
		none(t, s+`\n`)
	}
}

// denotesBetween is denotes for a rune's encoding, which a backslash before it would make another one.
func denotesBetween(t *testing.T, r rune) {
	t.Helper()
	s := encoding(r)
	for _, before := range []string{"", "a", `\n`, `\\`, "\"", "\n", "\xff", s} {
		for _, after := range []string{"", "a", "\\", `\n`, "\"", "\n", "\xff", s} {
			isOne(t, before+s+after, len(before), r, len(s))
		}
	}
	reads(t, s, s)
	reads(t, s+s, s+s)
	reads(t, `\n`+s+`\\`, "\n"+s+`\`)
}

func TestOneAtEveryOffset(t *testing.T) {
	s := `a\n\u0041\uD83D\uDD14` + "é\xff\"\n" + `\\u` + "\U0001f514\\"
	type one struct {
		r    rune
		size int
	}
	begins := map[int]one{
		0: {'a', 1}, 1: {'\n', 2}, 2: {'n', 1}, 3: {'A', 6}, 4: {'u', 1}, 5: {'0', 1}, 6: {'0', 1}, 7: {'4', 1}, 8: {'1', 1},
		9: {128276, 12}, 10: {'u', 1}, 11: {'D', 1}, 12: {'8', 1}, 13: {'3', 1}, 14: {'D', 1}, 16: {'u', 1}, 17: {'D', 1}, 18: {'D', 1}, 19: {'1', 1}, 20: {'4', 1},
		21: {'é', 2}, 26: {'\\', 2}, 28: {'u', 1}, 29: {128276, 4},
	}
	if len(s) != 34 {
		t.Fatal(len(s))
	}
	for at := -100; at <= len(s)+100; at++ {
		isOne(t, s, at, begins[at].r, begins[at].size)
	}
	for _, x := range []string{"", "a", `\`, `\n`, `\u0041`, `\uD83D\uDD14`, `\uD83D`, "é", "\xff", s} {
		for _, at := range []int{math.MinInt, math.MinInt + 1, math.MinInt32, -6, -2, -1, len(x), len(x) + 1, len(x) + 6, math.MaxInt32, math.MaxInt - 6, math.MaxInt - 1, math.MaxInt} {
			isOne(t, x, at, 0, 0)
		}
	}
}

func TestOneAtEveryCut(t *testing.T) {
	for _, one := range []string{`\n`, `\"`, `\\`, `\u0041`, `\uFFFF`, `\uD83D\uDD14`, `\udbff\udfff`, "é", "€", "\U0001f514"} {
		long := "ab" + one // whose memory lies behind each part of it
		for to := range one {
			isOne(t, one[:to], 0, 0, 0)
			isOne(t, long[:2+to], 2, 0, 0)
			if to > 0 {
				refuses(t, long[:2+to])
				refuses(t, `\\\n`+one[:to])
			}
		}
	}
	isOne(t, `\uD83D\uDD14`[:6], 0, 0, 0)
	isOne(t, `\u0041\u0042`[:11], 0, 'A', 6)
	isOne(t, `\u0041\u0042`[:11], 6, 0, 0)
}

func TestOneIsAsDefined(t *testing.T) {
	holds := func(s string) {
		for at := -1; at <= len(s); at++ {
			want, size := runeAt(s, at)
			if r, n, ok := jstr.One(s, at); r != want || n != size || ok != (size > 0) {
				t.Fatalf("One(%q, %d) = %d, %d, %t, want %d, %d", s, at, r, n, ok, want, size)
			}
		}
	}
	for _, c := range everyByte() {
		for _, d := range everyByte() {
			holds(c + d)
			holds(`\` + c + d + "0041")
			holds(`\uD8` + c + d + `\uDC00`)
			holds(`\uD83D` + c + d + `DD14`)
			holds(`\uD83D\u` + c + d + `14`)
		}
	}
	words([]string{`\`, "u", "D8", "dC", "00", "1", "n", "\xff"}, 6, holds)
	words([]string{`\uD83D`, `\uDD14`, `\u00`, "41", `\`, "\"", "é", "a"}, 5, holds)
	words(pieces(), 2, holds)
	for _, s := range texts() {
		holds(s)
	}
}

// P7.3

func TestRead(t *testing.T) {
	for _, x := range [][2]string{
		{"", ""},
		{"a", "a"},
		{`a\"b\n`, "a\"b\n"},
		{`\"\\\/\b\f\n\r\t`, "\"\\/\b\f\n\r\t"},
		{`\u003C\u003c<`, "<<<"},
		{`\u0000\u001f\u007f`, "\x00\x1f\x7f"},
		{`\uD83D\uDD14`, "\U0001f514"},
		{`\uD83D\uDD14\uD83D\uDD15`, "\U0001f514\U0001f515"},
		{`\u00e9é\u20AC€`, "éé€€"},
		{`\ud7ff\ue000\uffff`, "\xed\x9f\xbf\xee\x80\x80\xef\xbf\xbf"},
		{`\uFFFD` + unknown, unknown + unknown},
		// what an escape denotes is not read again
		{`\\n`, `\n`},
		{`\\\\n`, `\\n`},
		{`\\\n`, "\\\n"},
		{`\\u0041`, `\u0041`},
		{`\u005cn`, `\n`},
		{`\u005Cu0041`, `\u0041`},
		{`\u0022`, `"`},
		{`\u005c\u005c`, `\\`},
		// runes that Write would escape
		{"<&>/'", "<&>/'"},
		{"\x7f\xc2\x80\xc2\x9f\xe2\x80\xa8\xe2\x80\xa9", "\x7f\xc2\x80\xc2\x9f\xe2\x80\xa8\xe2\x80\xa9"},
		{" ~\xc2\xa0\xef\xbb\xbf\xf4\x8f\xbf\xbf", " ~\xc2\xa0\xef\xbb\xbf\xf4\x8f\xbf\xbf"},
		{"u0041nbt", "u0041nbt"},
	} {
		reads(t, x[0], x[1])
		reads(t, x[0]+x[0], x[1]+x[1])
		reads(t, "a"+x[0]+"0", "a"+x[1]+"0")
	}
}

func TestReadRefuses(t *testing.T) {
	wrong := append([]string{`"`, `\a`, `\u`, `\u0`, `\u00`, `\u004`, `\u004g`, `\U0041`, `\uD83D`, `\uDD14`, `\uD83D\uD83D`, `\uD83D\n`, `\uD83D\`, `\uD83D\u`, `\uD83D\uDD1`, "\\uD83D\xed\xb4\x94"}, bad...)
	for i := range 32 {
		wrong = append(wrong, string([]byte{byte(i)}))
	}
	for _, s := range wrong {
		refuses(t, s)
		for _, before := range []string{"a", `\n`, `\\`, `\"`, `\u0041`, `\uD83D\uDD14`, "é", "\U0001f514", unknown, strings.Repeat("a", 1000)} {
			refuses(t, before+s)
			refuses(t, before+s+" ")
			refuses(t, before+s+`\u0041`)
			refuses(t, before+`\`) // at the end alone: another one behind it would make it an escape
		}
		refuses(t, s+s)
	}
	for _, s := range []string{`a"b`, `"a"`, `\""`, `\\"`, "a\nb", "a\r\n", "tab\there", "\x00", `it\'s`, `\x41`, "\\\n", "a\xffb"} {
		refuses(t, s)
	}
}

func TestReadEveryByte(t *testing.T) {
	for i, c := range everyByte() {
		for _, x := range [][2]string{{c, c}, {"a" + c + "b", "a" + c + "b"}, {`\n` + c + `\\`, "\n" + c + `\`}, {`\u0021` + c, "!" + c}} {
			switch {
			case i < 32, i == 34, i >= 128:
				refuses(t, x[0])
			case i != 92:
				reads(t, x[0], x[1])
			}
		}
	}
	refuses(t, `a\`)
	reads(t, `\u0021\\`, `!\`)
}

func TestReadIsAsDefined(t *testing.T) {
	holds := func(s string) {
		want, ok := readingOf(s)
		e := api.OK
		if !ok {
			e = api.ErrForm
		}
		if got, is := jstr.Read(s); got != want || is != e {
			t.Fatalf("Read(%q) = %q, %d, want %q, %d", s, got, is, want, e)
		}
	}
	for _, c := range everyByte() {
		for _, d := range everyByte() {
			holds(c + d)
			holds(`\` + c + d)
		}
	}
	words([]string{`\`, "u", "D8", "dC", "00", "n", "\"", "é"}, 6, holds)
	words([]string{`\uD83D`, `\uDD14`, `\u00`, "41", `\\`, `\"`, "\xc3", "\xa9"}, 5, holds)
	words(pieces(), 2, holds)
	for _, s := range texts() {
		holds(s)
		holds(writingOf(s))
		holds(strings.ReplaceAll(writingOf(s), "0", ""))
	}
}

// P7.4

func TestReadUndoesWrite(t *testing.T) {
	undoes := func(s string) {
		want := string([]rune(s)) // each bad byte becomes 65533
		if utf8.ValidString(s) && want != s {
			t.Fatalf("%q has no bad bytes", s)
		}
		if got, e := jstr.Read(jstr.Write(s)); got != want || e != api.OK {
			t.Fatalf("Read(%q), %q escaped, is %q, %d", jstr.Write(s), s, got, e)
		}
	}
	for r := range rune(utf8.MaxRune + 1) {
		undoes(encoding(r))
	}
	for _, c := range everyByte() {
		for _, d := range everyByte() {
			undoes(c + d)
		}
	}
	words(strings.Split("\" \\ \n < u 0041 D83D é \xff", " "), 5, undoes)
	words(pieces(), 2, undoes)
	for _, s := range texts() {
		undoes(s)
		undoes(jstr.Write(s))
		undoes(jstr.Write(jstr.Write(s)))
	}
}

func TestWhatWriteContains(t *testing.T) {
	proper := func(s string) {
		written := jstr.Write(s)
		if !utf8.ValidString(written) {
			t.Fatalf("%q, %q escaped, is not valid UTF-8", written, s)
		}
		if strings.ContainsAny(written, "<>&\x7f\u2028\u2029") {
			t.Fatalf("%q, %q escaped, contains what is to be escaped", written, s)
		}
		for i := range len(written) {
			if written[i] < 32 || written[i] == '"' && (i == 0 || written[i-1] != '\\') {
				t.Fatalf("%q, %q escaped, contains a bare %q", written, s, written[i])
			}
		}
	}
	for r := range rune(utf8.MaxRune + 1) {
		proper(encoding(r))
	}
	for _, c := range everyByte() {
		for _, d := range everyByte() {
			proper(c + d)
		}
	}
	words(strings.Split("\" \\ \n < u 0041 & > é \xff", " "), 4, proper)
	words(pieces(), 2, proper)
	for _, s := range texts() {
		proper(s)
	}
}

// Whoever gets a payload reads it with a reader of its own, and may be sent what another writer wrote.

func TestAnotherReaderReadsWhatIsWritten(t *testing.T) {
	for _, s := range texts() {
		var got string
		if err := json.Unmarshal([]byte(`"`+jstr.Write(s)+`"`), &got); err != nil || got != string([]rune(s)) {
			t.Fatalf("%q, %q escaped, is read as %q: %v", jstr.Write(s), s, got, err)
		}
	}
}

func TestWhatAnotherWriterWroteIsRead(t *testing.T) {
	for _, s := range texts() {
		b, err := json.Marshal(s)
		if err != nil {
			t.Fatal(err)
		}
		written := strings.TrimSuffix(strings.TrimPrefix(string(b), `"`), `"`)
		reads(t, written, string([]rune(s)))
	}
}

func TestAnotherReaderReadsWhatIsRead(t *testing.T) {
	for _, s := range texts() {
		want, e := jstr.Read(s)
		if e != api.OK {
			continue
		}
		var got string
		if err := json.Unmarshal([]byte(`"`+s+`"`), &got); err != nil || got != want {
			t.Fatalf("%q is read as %q, by another reader as %q: %v", s, want, got, err)
		}
	}
}

// The bound of the promises is far beyond these; the time that each takes grows with the length alone.

func TestLongOnes(t *testing.T) {
	for _, s := range []string{strings.Repeat("a", 1<<21), strings.Repeat(`\`, 1<<20), strings.Repeat("<\"\x00\n", 1<<18), strings.Repeat(strings.Join(everyByte(), ""), 1<<12), strings.Repeat("\xff", 1<<20), strings.Repeat("\U0001f514\u2028", 1<<17)} {
		written := jstr.Write(s)
		if written != writingOf(s) {
			t.Errorf("Write(%.20q..)", s)
		}
		reads(t, written, string([]rune(s)))
		refuses(t, written+`"`)
		refuses(t, written+`\`)
	}
	reads(t, strings.Repeat(`\uDBFF\uDFFF`, 1<<17), strings.Repeat("\xf4\x8f\xbf\xbf", 1<<17))
	refuses(t, strings.Repeat(`\uD83D`, 1<<18))
	refuses(t, strings.Repeat(`\uD83D\uDD14`, 1<<17)+`\uD83D`)
}

// General rule 4

func TestAnswersAreNewMemory(t *testing.T) {
	for _, s := range []string{"a", "of plain bytes alone", "é€\U0001f514"} {
		if got := jstr.Write(s); got != s || unsafe.StringData(got) == unsafe.StringData(s) {
			t.Errorf("Write(%q) = %q lies in the argument", s, got)
		}
		if got, _ := jstr.Read(s); got != s || unsafe.StringData(got) == unsafe.StringData(s) {
			t.Errorf("Read(%q) = %q lies in the argument", s, got)
		}
	}
}
