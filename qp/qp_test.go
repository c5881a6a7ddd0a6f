package qp_test

import (
	"fmt"
	"io"
	"math/rand"
	"mime/quotedprintable"
	"regexp"
	"strconv"
	"strings"
	"testing"
	"unsafe"

	"nuncio/api"
	"nuncio/qp"
)

// codeOf is the chapter's definition of the code of the byte of s at i, which is not 10.
func codeOf(s string, i int) string {
	c := s[i]
	if c >= 33 && c <= 126 && c != 61 {
		return s[i : i+1]
	}
	if (c == 32 || c == 9) && i < len(s)-1 && s[i+1] != 10 {
		return s[i : i+1]
	}
	return fmt.Sprintf("=%02X", c)
}

// encodingOf is the chapter's definition of the encoding, line by line.
func encodingOf(s string) string {
	lines := []string{""}
	for i := range len(s) {
		if s[i] == 10 {
			lines = append(lines, "")
			continue
		}
		code := codeOf(s, i)
		if len(lines[len(lines)-1])+len(code) > 75 {
			lines[len(lines)-1] += "="
			lines = append(lines, "")
		}
		lines[len(lines)-1] += code
	}
	return strings.Join(lines, "\r\n")
}

const piece = `\r\n|=\r\n|=[0-9A-Fa-f][0-9A-Fa-f]|[\t !-<>-~]`

var (
	pieces   = regexp.MustCompile(piece)
	ofPieces = regexp.MustCompile(`\A(?:` + piece + `)*\z`)
)

// decodingOf is the chapter's definition of what Decode reads.
func decodingOf(s string) (string, bool) {
	if !ofPieces.MatchString(s) {
		return "", false
	}
	return pieces.ReplaceAllStringFunc(s, func(p string) string {
		switch {
		case p == "\r\n":
			return "\n"
		case p == "=\r\n":
			return ""
		case p[0] != '=':
			return p
		}
		n, err := strconv.ParseUint(p[1:], 16, 8)
		if err != nil {
			panic(err)
		}
		return string([]byte{byte(n)})
	}), true
}

// words calls do with each text of at most most bytes of letters.
func words(letters string, most int, do func(string)) {
	var grow func(w string)
	grow = func(w string) {
		do(w)
		if len(w) == most {
			return
		}
		for i := range len(letters) {
			grow(w + letters[i:i+1])
		}
	}
	grow("")
}

// random returns strings of all lengths up to most, of any of the letters.
func random(seed int64, most int, letters string) []string {
	r := rand.New(rand.NewSource(seed))
	var l []string
	for n := range most + 1 {
		b := make([]byte, n)
		for i := range b {
			b[i] = letters[r.Intn(len(letters))]
		}
		l = append(l, string(b))
	}
	return l
}

func everyByte() string {
	b := make([]byte, 256)
	for i := range b {
		b[i] = byte(i)
	}
	return string(b)
}

// texts are of any bytes, of bytes whose codes differ by what follows, of plain ones almost alone, of such as all are escaped.
func texts() []string {
	l := random(51, 400, everyByte())
	l = append(l, random(52, 400, " \t\n\ra=")...)
	l = append(l, random(53, 400, strings.Repeat("a", 60)+" =\n")...)
	l = append(l, random(54, 200, "\xc3\xa9")...)
	return append(l, everyByte(), everyByte()+everyByte())
}

func a(n int) string {
	return strings.Repeat("a", n)
}

func encodes(t *testing.T, s, want string) {
	t.Helper()
	if got := qp.Encode(s); got != want {
		t.Errorf("Encode(%.200q) = %.400q, want %.400q", s, got, want)
	}
}

func decodes(t *testing.T, s, want string) {
	t.Helper()
	if got, e := qp.Decode(s); got != want || e != api.OK {
		t.Errorf("Decode(%.200q) = %.200q, %d, want %.200q", s, got, e, want)
	}
}

func refuses(t *testing.T, s string) {
	t.Helper()
	if got, e := qp.Decode(s); got != "" || e != api.ErrForm {
		t.Errorf("Decode(%.200q) = %.200q, %d", s, got, e)
	}
}

// P5.1

func TestEncode(t *testing.T) {
	for _, x := range []struct{ s, code string }{
		{"", ""},
		{"a", "a"},
		{"a=b", "a=3Db"},
		{"==", "=3D=3D"},
		{"=3D", "=3D3D"},
		{"Ordinary text, of several words.", "Ordinary text, of several words."},
		{"caf\xc3\xa9 at 10\xe2\x82\xac\n", "caf=C3=A9 at 10=E2=82=AC\r\n"},
		{"!<>~", "!<>~"},
		{"\x00\x1f\x7f\x80\xff", "=00=1F=7F=80=FF"},
		// blanks
		{"a b", "a b"},
		{"a\tb", "a\tb"},
		{" a", " a"},
		{"\ta", "\ta"},
		{"a ", "a=20"},
		{"a\t", "a=09"},
		{" ", "=20"},
		{"\t", "=09"},
		{"a \n", "a=20\r\n"},
		{"\t\n", "=09\r\n"},
		{"a  \n", "a =20\r\n"},
		{"a \t", "a =09"},
		{"\t \tb", "\t \tb"},
		{" =", " =3D"},
		{" \xff", " =FF"},
		{" \x00", " =00"},
		{"a \r", "a =0D"},
		{"a \r\n", "a =0D\r\n"},
		{"a \n b ", "a=20\r\n b=20"},
		// 10 and 13
		{"\n", "\r\n"},
		{"\r", "=0D"},
		{"\r\n", "=0D\r\n"},
		{"\n\r", "\r\n=0D"},
		{"\r\r\n", "=0D=0D\r\n"},
		{"\n\n", "\r\n\r\n"},
		{"a\n\n\nb", "a\r\n\r\n\r\nb"},
		{"a\r\n\r\nb", "a=0D\r\n=0D\r\nb"},
		{"a\n \n\t\nb", "a\r\n=20\r\n=09\r\nb"},
		{"a\n", "a\r\n"},
		{"\na", "\r\na"},
	} {
		encodes(t, x.s, x.code)
		decodes(t, x.code, x.s)
	}
}

func TestEncodeBreaksLines(t *testing.T) {
	const soft = "=\r\n"
	for _, x := range []struct{ s, code string }{
		// a code of one byte ends one before, at and one beyond the place
		{a(74), a(74)},
		{a(75), a(75)},
		{a(76), a(75) + soft + "a"},
		{a(74) + " b", a(74) + " " + soft + "b"},
		{a(75) + " b", a(75) + soft + " b"},
		{a(73) + " b", a(73) + " b"},
		{a(74) + "\tb", a(74) + "\t" + soft + "b"},
		{a(74) + "  b", a(74) + " " + soft + " b"},
		// a code of three bytes does
		{a(71) + "=", a(71) + "=3D"},
		{a(72) + "=", a(72) + "=3D"},
		{a(73) + "=", a(73) + soft + "=3D"},
		{a(74) + "=", a(74) + soft + "=3D"},
		{a(75) + "=", a(75) + soft + "=3D"},
		{a(72) + "=b", a(72) + "=3D" + soft + "b"},
		{a(71) + "=b", a(71) + "=3Db"},
		{a(72) + "\xc3\xa9", a(72) + "=C3" + soft + "=A9"},
		{a(69) + "\xc3\xa9", a(69) + "=C3=A9"},
		{a(70) + "\xc3\xa9", a(70) + "=C3" + soft + "=A9"},
		{strings.Repeat("=", 25), strings.Repeat("=3D", 25)},
		{strings.Repeat("=", 26), strings.Repeat("=3D", 25) + soft + "=3D"},
		// blanks at the end have such codes
		{a(72) + " ", a(72) + "=20"},
		{a(73) + " ", a(73) + soft + "=20"},
		{a(75) + "\t", a(75) + soft + "=09"},
		{a(72) + " \n", a(72) + "=20\r\n"},
		{a(73) + " \n", a(73) + soft + "=20\r\n"},
		{a(72) + "  ", a(72) + " " + soft + "=20"},
		// a 10 has no code and breaks no line
		{a(74) + "\n", a(74) + "\r\n"},
		{a(75) + "\n", a(75) + "\r\n"},
		{a(76) + "\n", a(75) + soft + "a\r\n"},
		{a(72) + "=\n", a(72) + "=3D\r\n"},
		{a(73) + "=\n", a(73) + soft + "=3D\r\n"},
		{a(72) + "\r\n", a(72) + "=0D\r\n"},
		{a(73) + "\r\n", a(73) + soft + "=0D\r\n"},
		{a(75) + "\n\n", a(75) + "\r\n\r\n"},
		{a(75) + "\nb", a(75) + "\r\nb"},
		// each line is counted anew
		{a(75) + "\n" + a(75), a(75) + "\r\n" + a(75)},
		{a(75) + "\n" + a(76), a(75) + "\r\n" + a(75) + soft + "a"},
		{a(40) + "\n" + a(75), a(40) + "\r\n" + a(75)},
		{"\n" + a(75), "\r\n" + a(75)},
		{a(150), a(75) + soft + a(75)},
		{a(151), a(75) + soft + a(75) + soft + "a"},
		{a(225), a(75) + soft + a(75) + soft + a(75)},
		{a(76) + "\n" + a(75), a(75) + soft + "a\r\n" + a(75)},
		{a(73) + "=" + a(72), a(73) + soft + "=3D" + a(72)},
		{a(73) + "=" + a(73), a(73) + soft + "=3D" + a(72) + soft + "a"},
		{strings.Repeat("=", 51), strings.Repeat("=3D", 25) + soft + strings.Repeat("=3D", 25) + soft + "=3D"},
	} {
		encodes(t, x.s, x.code)
		decodes(t, x.code, x.s)
	}
}

func TestEncodeEveryByteInEveryPlace(t *testing.T) {
	for i := range 256 {
		c := string([]byte{byte(i)})
		for _, before := range []string{"", "b", " ", "\n", "\r", "="} {
			for _, after := range []string{"", "b", " ", "\t", "\n", "\r", "\r\n", "=", "\xff"} {
				s := before + c + after
				encodes(t, s, encodingOf(s))
			}
		}
	}
}

func TestEncodeEveryByteWhereALineIsFull(t *testing.T) {
	for i := range 256 {
		c := string([]byte{byte(i)})
		for n := 70; n <= 78; n++ {
			for _, after := range []string{"", "b", "=", " ", "\n", "\nb", a(75), c + c} {
				for _, before := range []string{"", "b\n", a(75)} {
					s := before + a(n) + c + after
					encodes(t, s, encodingOf(s))
				}
			}
		}
	}
}

func TestEncodeIsAsDefined(t *testing.T) {
	words("a=\xff \t\r\n", 5, func(s string) {
		for _, before := range []string{"", a(70)} {
			if got, want := qp.Encode(before+s), encodingOf(before+s); got != want {
				t.Fatalf("Encode(%q) = %q, want %q", before+s, got, want)
			}
		}
	})
	for _, s := range texts() {
		encodes(t, s, encodingOf(s))
	}
}

// P5.2

func TestDecode(t *testing.T) {
	for _, x := range []struct{ code, s string }{
		{"", ""},
		{"a", "a"},
		{"!<>~", "!<>~"},
		// hexadecimal digits
		{"=3D", "="},
		{"=3d", "="},
		{"=c3=A9=C3=a9", "\xc3\xa9\xc3\xa9"},
		{"=aA=Aa=fF=Ff", "\xaa\xaa\xff\xff"},
		{"=00=0a=0D=7F", "\x00\n\r\x7f"},
		{"=0D=0A", "\r\n"},
		{"=61=20=09", "a \t"},
		{"=3D3D", "=3D"},
		{"=3D=3D", "=="},
		{"=410", "A0"},
		// line ends
		{"\r\n", "\n"},
		{"\r\n\r\n", "\n\n"},
		{"a\r\nb", "a\nb"},
		{"\r\na", "\na"},
		{"a\r\n", "a\n"},
		{"=0D\r\n", "\r\n"},
		{"\r\n=0A", "\n\n"},
		// soft line breaks
		{"=\r\n", ""},
		{"a=\r\nb", "ab"},
		{"a=\r\n", "a"},
		{"=\r\na", "a"},
		{"=\r\n=\r\n", ""},
		{"a=\r\n=\r\nb", "ab"},
		{"=\r\n\r\n", "\n"},
		{"\r\n=\r\n", "\n"},
		{"a=\r\n=3D", "a="},
		{"=3D=\r\n", "="},
		// blanks stay, those at a line's end too
		{" ", " "},
		{"\t", "\t"},
		{"a ", "a "},
		{"a \r\n", "a \n"},
		{"a\t\r\n", "a\t\n"},
		{" \t \r\n\t", " \t \n\t"},
		{"a =\r\n b", "a  b"},
		{" \r\n \r\n", " \n \n"},
	} {
		decodes(t, x.code, x.s)
	}
}

func TestDecodeTakesLongLines(t *testing.T) {
	for _, n := range []int{75, 76, 77, 78, 100, 998, 1000, 5000} {
		decodes(t, a(n), a(n))
		decodes(t, a(n)+"=\r\n"+a(n), a(2*n))
		decodes(t, a(n)+"\r\n"+a(n), a(n)+"\n"+a(n))
		decodes(t, strings.Repeat("=3D", n), strings.Repeat("=", n))
		decodes(t, a(n)+strings.Repeat(" ", n)+"\r\n", a(n)+strings.Repeat(" ", n)+"\n")
	}
}

func TestDecodeRefuses(t *testing.T) {
	for _, s := range []string{
		// = at the end, before one byte, before what are no digits
		"=", "a=", "==", "=3D=", "=\r\n=", "\r\n=", a(75) + "=",
		"=3", "=D", "=a", "a=3", "= ", "=3D=3", "=3\r\n",
		"=3g", "=g3", "=3G", "=G3", "=zz", "=3=", "=3=3D", "==3D", "===", "=/0", "=0/", "=:0", "=0:", "=@0", "=0@", "=`0", "=0`",
		"= 3D", "=3 D", "=3 ", "= 3", "=\t3", "=+3", "=-3", "=0x3D", "=\xc3\xa9", "=\x00\x00", "=\xff\xff",
		// before half a line end, or not right before one
		"=\n", "=\r", "a=\nb", "a=\rb", "=\n\r", "=\r\r\n", "=\r=\n", "= \r\n", "=\t\r\n", "a= \r\nb", "=\ra", "=3\n",
		// half line ends
		"\n", "\r", "a\n", "a\r", "\na", "\ra", "\n\r", "\r\r\n", "\r\n\n", "\r\n\r", "\n\r\n", "\r\r", "\n\n", "a\nb\r\n", "a\r\nb\n", "\r \n", "\r=\n", "\r=0A",
		// wrong ones behind many right ones
		a(200) + "\n", a(200) + "\xff", a(75) + "=\r\n" + a(75) + "=\r\n\x00",
		// unescaped ones
		"\x00", "\x1f", "\x7f", "\x80", "\xff", "caf\xc3\xa9", "a\vb", "a\fb", "\u00a0", "\u2028",
	} {
		refuses(t, s)
	}
}

func TestDecodeEveryByte(t *testing.T) {
	for i := range 256 {
		c := string([]byte{byte(i)})
		itself := i >= 33 && i <= 126 && i != 61 || i == 32 || i == 9
		for _, x := range []struct{ before, after, s string }{
			{"", "", c},
			{"b", "", "b" + c},
			{"", "g", c + "g"}, // behind it, a = would need digits
			{"b", "g", "b" + c + "g"},
			{"=3D", "\r\n", "=" + c + "\n"},
			{"=\r\n", "=3d", c + "="},
			{"\r\n", "=\r\n", "\n" + c},
			{a(76), "g", a(76) + c + "g"},
		} {
			code := x.before + c + x.after
			switch {
			case itself:
				decodes(t, code, x.s)
			case i != '=' || x.after != "\r\n": // that one is a soft line break
				refuses(t, code)
			}
		}
	}
}

func TestDecodeEveryTwoBytesBehindEquals(t *testing.T) {
	for i := range 256 {
		for j := range 256 {
			code := string([]byte{'=', byte(i), byte(j)})
			n, err := strconv.ParseUint(code[1:], 16, 8)
			switch {
			case err == nil:
				decodes(t, code, string([]byte{byte(n)}))
			case code == "=\r\n":
				decodes(t, code, "")
			default:
				refuses(t, code)
			}
		}
	}
}

func TestDecodeIsAsDefined(t *testing.T) {
	asDefined := func(s string) {
		want, ok := decodingOf(s)
		e := api.OK
		if !ok {
			e = api.ErrForm
		}
		if got, is := qp.Decode(s); got != want || is != e {
			t.Fatalf("Decode(%q) = %q, %d, want %q, %d", s, got, is, want, e)
		}
	}
	words("=\r\n0aFg \x80", 5, asDefined)
	words("=\r\n3", 8, asDefined)
	for _, s := range texts() {
		asDefined(s)
		code := encodingOf(s)
		asDefined(code)
		asDefined(strings.ToLower(code))
		asDefined(code[:len(code)*2/3])
		asDefined(code[len(code)/3:])
	}
}

// P5.3

func TestDecodeUndoesEncode(t *testing.T) {
	undoes := func(s string) {
		code := qp.Encode(s)
		if got, e := qp.Decode(code); got != s || e != api.OK {
			t.Fatalf("Decode(%q), the encoding of %q, is %q, %d", code, s, got, e)
		}
	}
	for i := range 256 {
		for j := range 256 {
			undoes(string([]byte{byte(i), byte(j)}))
		}
	}
	words("a=\xff \t\r\n", 5, undoes)
	for _, s := range texts() {
		undoes(s)
		undoes(qp.Encode(s))
	}
}

func TestLinesOfAnEncoding(t *testing.T) {
	proper := func(s string) {
		code := qp.Encode(s)
		for _, line := range strings.Split(code, "\r\n") {
			if len(line) > 76 || strings.HasSuffix(line, " ") || strings.HasSuffix(line, "\t") {
				t.Fatalf("the encoding of %q has the line %q", s, line)
			}
			for _, c := range []byte(line) {
				if c > 126 || c == '\r' || c == '\n' {
					t.Fatalf("the encoding of %q has the byte %d in the line %q", s, c, line)
				}
			}
		}
	}
	words("a=\xff \t\r\n", 5, func(s string) {
		proper(s)
		proper(a(72) + s)
	})
	for _, s := range texts() {
		proper(s)
	}
	for n := range 240 {
		for _, c := range []string{"a", " ", "\t", "=", "\x7f", "\x80"} {
			for _, after := range []string{"", " ", "\n", " \n", "b"} {
				proper(strings.Repeat(c, n) + after)
			}
		}
	}
}

// Any mail program reads with a reader of its own.
func TestAnotherReaderReadsAnEncoding(t *testing.T) {
	for _, s := range texts() {
		code := qp.Encode(s)
		got, err := io.ReadAll(quotedprintable.NewReader(strings.NewReader(code)))
		if want := strings.ReplaceAll(s, "\n", "\r\n"); err != nil || string(got) != want {
			t.Fatalf("%q, the encoding of %q, is read as %q, %v", code, s, got, err)
		}
	}
}

// The bound of the promises is far beyond these; the time that each takes grows with the length alone.

func TestLongOnes(t *testing.T) {
	for _, s := range []string{a(1 << 21), strings.Repeat(everyByte(), 1<<12), strings.Repeat("\n", 1<<20), strings.Repeat("\xff", 1<<20), strings.Repeat(" ", 1<<20), strings.Repeat("=\r\n", 1<<18)} {
		code := qp.Encode(s)
		if code != encodingOf(s) {
			t.Errorf("Encode of %d bytes, %.10q and so on", len(s), s)
		}
		decodes(t, code, s)
		refuses(t, code+"\n")
	}
	soft := strings.Repeat("=\r\n", 1<<20)
	decodes(t, soft, "")
	refuses(t, soft+"=")
}

// General rule 4

func TestAnswersAreNewMemory(t *testing.T) {
	s := "of plain bytes alone"
	if got := qp.Encode(s); got != s || unsafe.StringData(got) == unsafe.StringData(s) {
		t.Errorf("Encode(%q) = %q lies in the argument", s, got)
	}
	if got, _ := qp.Decode(s); got != s || unsafe.StringData(got) == unsafe.StringData(s) {
		t.Errorf("Decode(%q) = %q lies in the argument", s, got)
	}
}
