package b64_test

import (
	"encoding/base64"
	"fmt"
	"math"
	"math/rand"
	"strconv"
	"strings"
	"testing"
	"unsafe"

	"nuncio/api"
	"nuncio/b64"
)

const digits = "ABCDEFGHIJKLMNOPQRSTUVWXYZabcdefghijklmnopqrstuvwxyz0123456789+/"

// bitsOf writes the bits of b, eight per byte, as zeros and ones.
func bitsOf(b string) string {
	var bits strings.Builder
	for i := range len(b) {
		fmt.Fprintf(&bits, "%08b", b[i])
	}
	return bits.String()
}

// digitsOf writes the digit of each six bits. Where a bit isn't known (x), there is no digit.
func digitsOf(bits string) string {
	code := ""
	for ; len(bits) >= 6; bits = bits[6:] {
		if strings.Contains(bits[:6], "x") {
			continue
		}
		n, err := strconv.ParseUint(bits[:6], 2, 6)
		if err != nil {
			panic(err)
		}
		code += digits[n : n+1]
	}
	return code
}

// encodingOf is the chapter's definition of the encoding.
func encodingOf(b string) string {
	bits := bitsOf(b)
	for len(bits)%6 != 0 {
		bits += "0"
	}
	code := digitsOf(bits)
	for len(code)%4 != 0 {
		code += "="
	}
	return code
}

// decodingOf reads what s has of digits and bytes; only that can be the string whose encoding is s.
func decodingOf(s string) (string, bool) {
	bits := ""
	for _, c := range []byte(strings.TrimRight(s, "=")) {
		n := strings.IndexByte(digits, c)
		if n < 0 {
			return "", false
		}
		bits += fmt.Sprintf("%06b", n)
	}
	var b []byte
	for ; len(bits) >= 8; bits = bits[8:] {
		n, err := strconv.ParseUint(bits[:8], 2, 8)
		if err != nil {
			panic(err)
		}
		b = append(b, byte(n))
	}
	if encodingOf(string(b)) != s {
		return "", false
	}
	return string(b), true
}

// innerOf is the chapter's definition: nothing is known of what stands before b and behind it.
func innerOf(b string, phase int) string {
	return digitsOf(strings.Repeat("x", 8*phase) + bitsOf(b) + "xxxxxxxx")
}

// words calls do with each text of at most most bytes of letters.
func words(letters string, most int, do func(string)) {
	var grow func(w string)
	grow = func(w string) {
		do(w)
		if len(w) == most {
			return
		}
		for i := range len(letters) {
			grow(w + letters[i:i+1])
		}
	}
	grow("")
}

// short calls do with each string of at most two bytes.
func short(do func(string)) {
	do("")
	for i := range 256 {
		do(string([]byte{byte(i)}))
		for j := range 256 {
			do(string([]byte{byte(i), byte(j)}))
		}
	}
}

// random returns strings of all lengths up to most, of any bytes.
func random(seed int64, most int) []string {
	r := rand.New(rand.NewSource(seed))
	var l []string
	for n := range most + 1 {
		b := make([]byte, n)
		r.Read(b)
		l = append(l, string(b))
	}
	return l
}

func everyByte() string {
	b := make([]byte, 256)
	for i := range b {
		b[i] = byte(i)
	}
	return string(b)
}

func decodes(t *testing.T, s, want string) {
	t.Helper()
	if got, e := b64.Decode(s); got != want || e != api.OK {
		t.Errorf("Decode(%.100q) = %.100q, %d, want %.100q", s, got, e, want)
	}
}

func refuses(t *testing.T, s string) {
	t.Helper()
	if got, e := b64.Decode(s); got != "" || e != api.ErrForm {
		t.Errorf("Decode(%.100q) = %.100q, %d", s, got, e)
	}
}

// P4.1

func TestEncodeAndDecode(t *testing.T) {
	for _, x := range []struct{ b, code string }{
		{"", ""},
		{"M", "TQ=="},
		{"Ma", "TWE="},
		{"Man", "TWFu"},
		{"Many", "TWFueQ=="},
		{"Many ", "TWFueSA="},
		{"Many h", "TWFueSBo"},
		{"\x00", "AA=="},
		{"\x00\x00", "AAA="},
		{"\x00\x00\x00", "AAAA"},
		{"\xff", "/w=="},
		{"\xff\xff", "//8="},
		{"\xff\xff\xff", "////"},
		{"\xfb\xef\xbe", "++++"},
		{"\r\n", "DQo="},
		{"\xc3\xa9", "w6k="},
		{"TQ==", "VFE9PQ=="},
	} {
		if got := b64.Encode(x.b); got != x.code {
			t.Errorf("Encode(%q) = %q, want %q", x.b, got, x.code)
		}
		decodes(t, x.code, x.b)
	}
}

func TestEncodeShortOnesAsDefined(t *testing.T) {
	short(func(b string) {
		if got, want := b64.Encode(b), encodingOf(b); got != want {
			t.Fatalf("Encode(%q) = %q, want %q", b, got, want)
		}
	})
}

func TestEncodeLongerOnesAsDefined(t *testing.T) {
	for _, b := range append(random(41, 200), everyByte(), everyByte()[1:], everyByte()[2:]) {
		if got, want := b64.Encode(b), encodingOf(b); got != want {
			t.Fatalf("Encode(%q) = %q, want %q", b, got, want)
		}
	}
}

func TestEveryDigit(t *testing.T) {
	for i := range 64 {
		b := string([]byte{byte(i << 2), 0, 0})
		code := digits[i:i+1] + "AAA"
		if got := b64.Encode(b); got != code {
			t.Errorf("Encode(%q) = %q, want %q", b, got, code)
		}
		decodes(t, code, b)
	}
}

func TestDecodeRefusesWhatIsNoDigit(t *testing.T) {
	for i := range 256 {
		c := string([]byte{byte(i)})
		if strings.Contains(digits+"=", c) {
			continue
		}
		for _, code := range []string{"AAAA", "AAA=", "AA==", "AAAAAAAA", "AAAAAAA=", "AAAAAA=="} {
			for at := range len(code) {
				refuses(t, code[:at]+c+code[at+1:])
			}
		}
		refuses(t, c+c+c+c)
	}
}

func TestDecodeRefusesUnusedBitsThatAreNotZero(t *testing.T) {
	for i := range 64 {
		last := digits[i : i+1]
		for _, x := range []struct {
			code string
			unit int // the digits whose unused bits are zero are the multiples of it
			b    string
		}{
			{"T" + last + "==", 16, string([]byte{19<<2 | byte(i>>4)})},
			{"TW" + last + "=", 4, "M" + string([]byte{0x60 | byte(i>>2)})},
			{"TWFuT" + last + "==", 16, "Man" + string([]byte{19<<2 | byte(i>>4)})},
			{"TWFuTW" + last + "=", 4, "ManM" + string([]byte{0x60 | byte(i>>2)})},
		} {
			if i%x.unit == 0 {
				decodes(t, x.code, x.b)
			} else {
				refuses(t, x.code)
			}
		}
	}
}

func TestDecodeRefusesPadsInWrongPlacesOrNumber(t *testing.T) {
	for _, s := range []string{
		"=", "==", "===", "====", "=====", "========",
		"A=", "A==", "A===", "A====", "AA=", "AA===", "AA====", "AAA==", "AAA===", "AAAA=", "AAAA==", "AAAA===", "AAAA====",
		"=AAA", "A=AA", "AA=A", "==AA", "A==A", "=A=A", "=AA=", "A=A=", "===A", "=A==",
		"TQ==TQ==", "TQ==TWFu", "TWE=TWE=", "TWE=TWFu", "TWFu=", "TWFu====", "=TWFu===", "TW=E",
	} {
		refuses(t, s)
	}
}

func TestDecodeRefusesWrongLengths(t *testing.T) {
	for _, s := range []string{"T", "TQ", "TWE", "TQ=", "TWFuT", "TWFuTQ", "TWFuTWE", "TWFuTQ=", "A", "AA", "AAA", "AAAAA", "AAAAAA", "AAAAAAA"} {
		refuses(t, s)
	}
}

func TestDecodeTakesNoBlanksOrLineEnds(t *testing.T) {
	for _, code := range []string{"", "TQ==", "TWE=", "TWFu", "TWFuTWFu"} {
		for _, c := range []string{"\t", "\n", "\r", " ", "\r\n", "    ", "\r\n\r\n"} {
			for at := range len(code) + 1 {
				refuses(t, code[:at]+c+code[at:])
			}
		}
	}
}

func TestDecodeIsAsDefined(t *testing.T) {
	asDefined := func(s string) {
		want, ok := decodingOf(s)
		e := api.OK
		if !ok {
			e = api.ErrForm
		}
		if got, is := b64.Decode(s); got != want || is != e {
			t.Fatalf("Decode(%q) = %q, %d, want %q, %d", s, got, is, want, e)
		}
	}
	words("AQgw/=\n-", 5, asDefined)
	words("AQ=", 9, asDefined)
}

func TestDecodeOfOtherAlphabetsAndTexts(t *testing.T) {
	for _, s := range []string{"-_-_", "T-==", "AA,A", "\xc3\xa9AA", "\x00\x00\x00\x00", "\xff\xff\xff\xff", "TQ\x00=", "TQ.=", "=?UTF-8?B?TQ==?="} {
		refuses(t, s)
	}
}

// P4.2

func TestWrap(t *testing.T) {
	for _, x := range []struct {
		s     string
		width int
		want  string
	}{
		{"abcdef", 2, "ab\r\ncd\r\nef"},
		{"abcdefg", 2, "ab\r\ncd\r\nef\r\ng"},
		{"abcdef", 1, "a\r\nb\r\nc\r\nd\r\ne\r\nf"},
		{"abcdef", 3, "abc\r\ndef"},
		{"abcdef", 4, "abcd\r\nef"},
		{"abcdef", 5, "abcde\r\nf"},
		{"abcdef", 6, "abcdef"},
		{"abcdef", 7, "abcdef"},
		{"abcdef", 12, "abcdef"},
		{"abcdef", 1 << 62, "abcdef"},
		{"abcdef", math.MaxInt, "abcdef"},
		{"abcdef", math.MaxInt - 1, "abcdef"},
		{"abcdef", 0, "abcdef"},
		{"abcdef", -1, "abcdef"},
		{"abcdef", -2, "abcdef"},
		{"abcdef", math.MinInt, "abcdef"},
		{"a", 1, "a"},
		{"", 0, ""},
		{"", 1, ""},
		{"", 2, ""},
		{"", -1, ""},
		{"", math.MaxInt, ""},
		{"a\r\nb", 2, "a\r\r\n\nb"}, // its own line ends are bytes like others
		{"\r\n\r\n", 2, "\r\n\r\n\r\n"},
		{"\x00\xff\xc3\xa9", 3, "\x00\xff\xc3\r\n\xa9"},
	} {
		if got := b64.Wrap(x.s, x.width); got != x.want {
			t.Errorf("Wrap(%q, %d) = %q, want %q", x.s, x.width, got, x.want)
		}
	}
}

func TestWrapAtEveryWidth(t *testing.T) {
	for n := range 40 {
		s := digits[:n]
		for width := 1; width <= 42; width++ {
			var lines []string
			for rest := s; ; rest = rest[width:] {
				if len(rest) <= width {
					lines = append(lines, rest)
					break
				}
				lines = append(lines, rest[:width])
			}
			if got, want := b64.Wrap(s, width), strings.Join(lines, "\r\n"); got != want {
				t.Errorf("Wrap(%q, %d) = %q, want %q", s, width, got, want)
			}
		}
	}
}

// P4.3

func TestMail(t *testing.T) {
	full := strings.Repeat("TWFu", 19)
	for _, x := range []struct {
		n    int // as many times Man
		tail string
		want string
	}{
		{0, "", ""},
		{0, "M", "TQ=="},
		{1, "", "TWFu"},
		{18, "", full[4:]},
		{18, "M", full[4:] + "TQ=="},
		{18, "Ma", full[4:] + "TWE="},
		{19, "", full},
		{19, "M", full + "\r\nTQ=="},
		{19, "Ma", full + "\r\nTWE="},
		{20, "", full + "\r\nTWFu"},
		{38, "", full + "\r\n" + full},
		{38, "M", full + "\r\n" + full + "\r\nTQ=="},
		{57, "", full + "\r\n" + full + "\r\n" + full},
	} {
		b := strings.Repeat("Man", x.n) + x.tail
		if got := b64.Mail(b); got != x.want {
			t.Errorf("Mail(%q) = %q, want %q", b, got, x.want)
		}
		if got, e := b64.Unmail(x.want); got != b || e != api.OK {
			t.Errorf("Unmail(%q) = %q, %d", x.want, got, e)
		}
	}
}

func TestMailIsTheEncodingWrapped(t *testing.T) {
	for _, b := range append(random(43, 250), everyByte()) {
		if got, want := b64.Mail(b), b64.Wrap(b64.Encode(b), 76); got != want {
			t.Fatalf("Mail(%q) = %q, want %q", b, got, want)
		}
	}
}

func TestUnmailTakesBlanksAndLineEndsAnywhere(t *testing.T) {
	for _, x := range []struct{ code, b string }{{"", ""}, {"TQ==", "M"}, {"TWE=", "Ma"}, {"TWFu", "Man"}, {"TWFuTQ==", "ManM"}} {
		for _, c := range []string{"\t", "\n", "\r", " ", "\r\n", "\n\r", " \t\r\n ", "    "} {
			for at := range len(x.code) + 1 {
				s := x.code[:at] + c + x.code[at:]
				if got, e := b64.Unmail(s); got != x.b || e != api.OK {
					t.Errorf("Unmail(%q) = %q, %d", s, got, e)
				}
			}
			s := c + strings.Join(strings.Split(x.code, ""), c) + c
			if got, e := b64.Unmail(s); got != x.b || e != api.OK {
				t.Errorf("Unmail(%q) = %q, %d", s, got, e)
			}
		}
	}
}

func TestUnmailTakesNothingElse(t *testing.T) {
	for i := range 256 {
		c := string([]byte{byte(i)})
		for _, code := range []string{"", "TQ==", "TWE=", "TWFu"} {
			for at := range len(code) + 1 {
				s := code[:at] + c + code[at:]
				want, e := b64.Decode(code)
				if !strings.Contains("\t\n\r ", c) {
					want, e = "", api.ErrForm // its length alone is wrong
				}
				if got, is := b64.Unmail(s); got != want || is != e {
					t.Errorf("Unmail(%q) = %q, %d", s, got, is)
				}
			}
		}
	}
	for _, s := range []string{"TQ.==", "TQ", "T Q", "TR==", "TR = =", "TQ==\r\nTQ==", "\u00a0\u00a0", "\v\v\f\f", "\u2028A", "====", "TQ= =="} {
		if got, e := b64.Unmail(s); got != "" || e != api.ErrForm {
			t.Errorf("Unmail(%q) = %q, %d", s, got, e)
		}
	}
}

func TestUnmailIsDecodeWithoutThem(t *testing.T) {
	words("TQ= \r\n", 6, func(s string) {
		want, e := b64.Decode(strings.NewReplacer(" ", "", "\t", "", "\r", "", "\n", "").Replace(s))
		if got, is := b64.Unmail(s); got != want || is != e {
			t.Fatalf("Unmail(%q) = %q, %d, want %q, %d", s, got, is, want, e)
		}
	})
}

// P4.4

func TestInner(t *testing.T) {
	for _, x := range []struct {
		b     string
		phase int
		want  string
	}{
		{"Man", 0, "TWFu"},
		{"an", 1, "Fu"},
		{"n", 2, "u"},
		{"Many", 0, "TWFue"},
		{"Man", 1, "1hb"},
		{"Man", 2, "NYW"},
		{"an\xff", 1, "Fu/"},
		{"n\xff", 2, "u/"},
		{"\x00\x00\x00", 0, "AAAA"},
		// too short for some digits of its own, or for any
		{"Ma", 0, "TW"},
		{"an", 2, "hb"},
		{"M", 0, "T"},
		{"a", 1, ""},
		{"", 0, ""},
		{"", 1, ""},
		{"", 2, ""},
		// no phases
		{"Man", 3, ""},
		{"Man", 4, ""},
		{"Man", -1, ""},
		{"Man", -2, ""},
		{"Man", math.MinInt, ""},
		{"Man", math.MaxInt, ""},
		{"", 3, ""},
		{"", -1, ""},
	} {
		if got := b64.Inner(x.b, x.phase); got != x.want {
			t.Errorf("Inner(%q, %d) = %q, want %q", x.b, x.phase, got, x.want)
		}
	}
}

func TestInnerIsAsDefined(t *testing.T) {
	asDefined := func(b string) {
		for phase := range 3 {
			if got, want := b64.Inner(b, phase), innerOf(b, phase); got != want {
				t.Fatalf("Inner(%q, %d) = %q, want %q", b, phase, got, want)
			}
		}
	}
	short(asDefined)
	for _, b := range random(44, 150) {
		asDefined(b)
	}
}

func TestInnerOfOtherPhases(t *testing.T) {
	for phase := -300; phase <= 300; phase++ {
		if got := b64.Inner("Many hands", phase); (phase < 0 || phase > 2) && got != "" {
			t.Errorf("Inner of phase %d = %q", phase, got)
		}
	}
}

// P4.5

func TestDecodeUndoesEncode(t *testing.T) {
	undoes := func(b string) {
		if got, e := b64.Decode(b64.Encode(b)); got != b || e != api.OK {
			t.Fatalf("Decode(Encode(%q)) = %q, %d", b, got, e)
		}
	}
	short(undoes)
	for _, b := range append(random(45, 300), everyByte()) {
		undoes(b)
	}
}

func TestEncodeUndoesDecode(t *testing.T) {
	words("AQ+=", 8, func(s string) {
		if b, e := b64.Decode(s); e == api.OK && b64.Encode(b) != s {
			t.Fatalf("Decode(%q) = %q, whose encoding is %q", s, b, b64.Encode(b))
		}
	})
}

func TestUnmailUndoesMail(t *testing.T) {
	for _, b := range append(random(46, 400), everyByte()) {
		mail := b64.Mail(b)
		if got, e := b64.Unmail(mail); got != b || e != api.OK {
			t.Fatalf("Unmail(Mail(%q)) = %q, %d", b, got, e)
		}
		lines := strings.Split(mail, "\r\n")
		for i, line := range lines {
			if len(line) > 76 || i < len(lines)-1 && len(line) < 76 || i > 0 && line == "" {
				t.Fatalf("Mail(%q) has the line %q", b, line)
			}
		}
	}
}

func TestInnerStandsInEveryEncoding(t *testing.T) {
	r := rand.New(rand.NewSource(47))
	text := func(n int) string {
		b := make([]byte, n)
		r.Read(b)
		return string(b)
	}
	for n := range 10 {
		for size := range 20 {
			for after := range 5 {
				b := text(size)
				code := b64.Encode(text(n) + b + text(after))
				inner := b64.Inner(b, n%3)
				at := (4*n + 2) / 3
				if at > len(code) || !strings.HasPrefix(code[at:], inner) {
					t.Fatalf("%q isn't at %d of %q", inner, at, code)
				}
			}
		}
	}
}

// The bound of the promises is far beyond these; the time that each takes grows with the length alone.

func TestLongOnes(t *testing.T) {
	b := strings.Repeat(everyByte(), 1<<13)
	for _, b := range []string{b, b[1:], b[2:]} {
		code := base64.StdEncoding.EncodeToString([]byte(b))
		if b64.Encode(b) != code {
			t.Error("Encode")
		}
		decodes(t, code, b)
		refuses(t, code[:len(code)-4]+"AB==")
		mail := b64.Mail(b)
		if strings.ReplaceAll(mail, "\r\n", "") != code || len(mail) != len(code)+2*((len(code)-1)/76) {
			t.Error("Mail")
		}
		if got, e := b64.Unmail(mail); got != b || e != api.OK {
			t.Error("Unmail", e)
		}
		if got := b64.Wrap(b, 1); len(got) != 3*len(b)-2 {
			t.Error("Wrap", len(got))
		}
		if got := b64.Inner(b, 0); !strings.HasPrefix(code, got) || len(code)-len(got) > 3 {
			t.Error("Inner", len(got))
		}
	}
}

// General rule 4

func TestAnswersAreNewMemory(t *testing.T) {
	s := strings.Repeat("TWFu", 4)
	for _, width := range []int{-1, 0, len(s), len(s) + 1, math.MaxInt} {
		if got := b64.Wrap(s, width); got != s || unsafe.StringData(got) == unsafe.StringData(s) {
			t.Errorf("Wrap(%q, %d) = %q lies in the argument", s, width, got)
		}
	}
}
