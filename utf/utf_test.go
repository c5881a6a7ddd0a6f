package utf_test

import (
	"math"
	"slices"
	"strings"
	"testing"
	"unicode/utf8"
	"unsafe"

	"nuncio/utf"
)

// isRune is the chapter's definition.
func isRune(r rune) bool {
	return r >= 0 && r <= 1114111 && (r < 55296 || r > 57343)
}

// encoding writes r as the chapter has it: one byte below 128, two below 2048, three below 65536, otherwise four.
func encoding(r rune) string {
	follower := func(shift int) byte { return byte(0x80 + r>>shift%64) }
	switch {
	case r < 128:
		return string([]byte{byte(r)})
	case r < 2048:
		return string([]byte{byte(0xc0 + r>>6), follower(0)})
	case r < 65536:
		return string([]byte{byte(0xe0 + r>>12), follower(6), follower(0)})
	}
	return string([]byte{byte(0xf0 + r>>18), follower(12), follower(6), follower(0)})
}

// words calls do with each text of at most most of the pieces.
func words(pieces []string, most int, do func(string)) {
	var grow func(w string, left int)
	grow = func(w string, left int) {
		do(w)
		if left == 0 {
			return
		}
		for _, p := range pieces {
			grow(w+p, left-1)
		}
	}
	grow("", most)
}

// bytesOf lists each byte of s as a piece of its own.
func bytesOf(s string) []string {
	var l []string
	for i := range len(s) {
		l = append(l, s[i:i+1])
	}
	return l
}

// These bytes begin or end a range of first or of following bytes, or lie just beyond one.
const edgeBytes = "\x00\x7f\x80\x8f\x90\x9f\xa0\xbf\xc0\xc1\xc2\xdf\xe0\xe1\xec\xed\xee\xef\xf0\xf1\xf3\xf4\xf5\xff"

// P2.1

func TestNext(t *testing.T) {
	for _, x := range []struct {
		s    string
		r    rune
		size int
	}{
		// ordinary ones
		{"a", 'a', 1},
		{"ab", 'a', 1},
		{"\xc3\xa9", 233, 2},
		{"\xc3\xa9\xa9", 233, 2},
		{"\xe2\x82\xac", 8364, 3},
		{"\xf0\x9f\x94\x94", 128276, 4},
		{"\xef\xbf\xbd", 65533, 3},
		// the first and the last of each length, and beside D800 to DFFF
		{"\x00", 0, 1},
		{"\x7f", 127, 1},
		{"\xc2\x80", 128, 2},
		{"\xdf\xbf", 2047, 2},
		{"\xe0\xa0\x80", 2048, 3},
		{"\xed\x9f\xbf", 55295, 3},
		{"\xee\x80\x80", 57344, 3},
		{"\xef\xbf\xbf", 65535, 3},
		{"\xf0\x90\x80\x80", 65536, 4},
		{"\xf3\xbf\xbf\xbf", 1048575, 4},
		{"\xf4\x80\x80\x80", 1048576, 4},
		{"\xf4\x8f\xbf\xbf", 1114111, 4},
		// overlong
		{"\xc0\x80", 65533, 1},
		{"\xc1\xbf", 65533, 1},
		{"\xe0\x80\x80", 65533, 1},
		{"\xe0\x9f\xbf", 65533, 1},
		{"\xf0\x80\x80\x80", 65533, 1},
		{"\xf0\x8f\xbf\xbf", 65533, 1},
		{"\xf8\x80\x80\x80\x80", 65533, 1},
		{"\xfc\x80\x80\x80\x80\x80", 65533, 1},
		// D800 to DFFF
		{"\xed\xa0\x80", 65533, 1},
		{"\xed\xaf\xbf", 65533, 1},
		{"\xed\xb0\x80", 65533, 1},
		{"\xed\xbf\xbf", 65533, 1},
		{"\xed\xa0\xbd\xed\xb4\x94", 65533, 1},
		// above 10FFFF
		{"\xf4\x90\x80\x80", 65533, 1},
		{"\xf4\xbf\xbf\xbf", 65533, 1},
		{"\xf5\x80\x80\x80", 65533, 1},
		{"\xf7\xbf\xbf\xbf", 65533, 1},
		{"\xff\xbf\xbf\xbf", 65533, 1},
		// cut off by the end
		{"\xc3", 65533, 1},
		{"\xe2", 65533, 1},
		{"\xe2\x82", 65533, 1},
		{"\xf0", 65533, 1},
		{"\xf0\x9f", 65533, 1},
		{"\xf0\x9f\x94", 65533, 1},
		// cut off by another byte
		{"\xc3\x28", 65533, 1},
		{"\xc3\xc3\xa9", 65533, 1},
		{"\xe2\x28\xac", 65533, 1},
		{"\xe2\x82\x28", 65533, 1},
		{"\xe2\x82\xc2\x80", 65533, 1},
		{"\xf0\x9f\x94\x28", 65533, 1},
		{"\xf0\x9f\x28\x94", 65533, 1},
		// followers alone
		{"\x80", 65533, 1},
		{"\xbf\xbf", 65533, 1},
	} {
		for _, before := range []string{"", "b", "\xe2\x82", "\xc3\xa9"} {
			if r, size := utf.Next(before+x.s, len(before)); r != x.r || size != x.size {
				t.Errorf("Next(%x, %d) = %d, %d", before+x.s, len(before), r, size)
			}
		}
	}
}

func TestNextWithinAnEncoding(t *testing.T) {
	s := "\xf0\x9f\x94\x94a"
	for at := 1; at < 4; at++ {
		if r, size := utf.Next(s, at); r != 65533 || size != 1 {
			t.Errorf("Next(%x, %d) = %d, %d", s, at, r, size)
		}
	}
	if r, size := utf.Next(s, 4); r != 'a' || size != 1 {
		t.Errorf("Next(%x, 4) = %d, %d", s, r, size)
	}
}

func TestNextOutside(t *testing.T) {
	for _, s := range []string{"", "a", "\xc3\xa9", "\xff", "a\xe2\x82\xac"} {
		for _, at := range []int{-1, -2, -len(s) - 1, math.MinInt, len(s), len(s) + 1, math.MaxInt - 1, math.MaxInt} {
			if r, size := utf.Next(s, at); r != 0 || size != 0 {
				t.Errorf("Next(%x, %d) = %d, %d", s, at, r, size)
			}
		}
	}
}

func TestNextOfEveryRune(t *testing.T) {
	for r := range rune(1114111 + 1) {
		s := encoding(r)
		want, wantSize := r, len(s)
		if !isRune(r) {
			want, wantSize = 65533, 1
		}
		if got, size := utf.Next(s, 0); got != want || size != wantSize {
			t.Fatalf("Next(%x, 0) = %d, %d", s, got, size)
		}
		for cut := 1; cut < len(s); cut++ {
			if got, size := utf.Next(s[:cut], 0); got != 65533 || size != 1 {
				t.Fatalf("Next(%x, 0) = %d, %d", s[:cut], got, size)
			}
		}
	}
}

func TestNextOfEveryBeginning(t *testing.T) {
	next := func(s string) {
		want, wantSize := utf8.DecodeRuneInString(s)
		if r, size := utf.Next(s, 0); r != want || size != wantSize {
			t.Fatalf("Next(%x, 0) = %d, %d, want %d, %d", s, r, size, want, wantSize)
		}
	}
	for i := range 256 {
		for j := range 256 {
			s := string([]byte{byte(i), byte(j)})
			next(s)
			next(s + "\x80")
			next(s + "\xbf\xbf")
			next(s + "\x80a")
			next(s + "\x80\xc0")
		}
	}
	words(bytesOf(edgeBytes), 4, func(s string) {
		if s != "" {
			next(s)
		}
	})
}

func TestBytes(t *testing.T) {
	for r := range rune(1114111 + 1) {
		want := "\xef\xbf\xbd"
		if isRune(r) {
			want = encoding(r)
		}
		if got := utf.Bytes(r); got != want {
			t.Fatalf("Bytes(%d) = %x, want %x", r, got, want)
		}
	}
	for _, r := range []rune{-1, -97, -65536, math.MinInt32, 55296, 57343, 1114112, 1114112 + 97, 1 << 21, 1 << 24, 1<<30 + 97, math.MaxInt32} {
		if got := utf.Bytes(r); got != "\xef\xbf\xbd" {
			t.Errorf("Bytes(%d) = %x", r, got)
		}
	}
}

func TestBytesOfEdges(t *testing.T) {
	for _, x := range []struct {
		r    rune
		want string
	}{
		{0, "\x00"},
		{'a', "a"},
		{127, "\x7f"},
		{128, "\xc2\x80"},
		{233, "\xc3\xa9"},
		{2047, "\xdf\xbf"},
		{2048, "\xe0\xa0\x80"},
		{8364, "\xe2\x82\xac"},
		{55295, "\xed\x9f\xbf"},
		{57344, "\xee\x80\x80"},
		{65533, "\xef\xbf\xbd"},
		{65535, "\xef\xbf\xbf"},
		{65536, "\xf0\x90\x80\x80"},
		{1114111, "\xf4\x8f\xbf\xbf"},
	} {
		if got := utf.Bytes(x.r); got != x.want {
			t.Errorf("Bytes(%d) = %x", x.r, got)
		}
	}
}

// P2.2

func TestRunes(t *testing.T) {
	for _, x := range []struct {
		s    string
		want []rune
		is   bool
	}{
		{"", nil, true},
		{"a", []rune{'a'}, true},
		{"a\x00b", []rune{'a', 0, 'b'}, true},
		{"\xc3\xa9\xe2\x82\xac\xf0\x9f\x94\x94", []rune{233, 8364, 128276}, true},
		{"\xef\xbf\xbd", []rune{65533}, true},
		{"\xef\xbf\xbd\xff", []rune{65533, 65533}, false},
		{"\xff", []rune{65533}, false},
		{"a\xffb", []rune{'a', 65533, 'b'}, false},
		{"abc\xe2\x82", []rune{'a', 'b', 'c', 65533, 65533}, false},
		{"\xe2\x82\xe2\x82\xac", []rune{65533, 65533, 8364}, false},
		{"\xed\xa0\x80", []rune{65533, 65533, 65533}, false},
		{"\xf4\x90\x80\x80", []rune{65533, 65533, 65533, 65533}, false},
		{"\xc0\x80a", []rune{65533, 65533, 'a'}, false},
	} {
		if got := utf.Runes(x.s); !slices.Equal(got, x.want) {
			t.Errorf("Runes(%x) = %d", x.s, got)
		}
		if got := utf.Count(x.s); got != len(x.want) {
			t.Errorf("Count(%x) = %d", x.s, got)
		}
		if got := utf.Is(x.s); got != x.is {
			t.Errorf("Is(%x) = %v", x.s, got)
		}
	}
}

func TestRunesAreTheStepsOfNext(t *testing.T) {
	words(bytesOf("a\xff\xc3\xa9\xe2\x82\xac\xf0\x9f\x94"), 5, func(s string) {
		var want []rune
		is := true
		for at := 0; at < len(s); {
			r, size := utf.Next(s, at)
			want = append(want, r)
			is = is && encoding(r) == s[at:at+size]
			at += size
		}
		if got := utf.Runes(s); !slices.Equal(got, want) {
			t.Fatalf("Runes(%x) = %d, want %d", s, got, want)
		}
		if got := utf.Count(s); got != len(want) {
			t.Fatalf("Count(%x) = %d, want %d", s, got, len(want))
		}
		if got := utf.Is(s); got != is {
			t.Fatalf("Is(%x) = %v", s, got)
		}
	})
}

func TestRunesOfALongText(t *testing.T) {
	s := strings.Repeat("a\xc3\xa9\xff", 1<<16)
	if got := utf.Count(s); got != 3<<16 {
		t.Errorf("Count = %d", got)
	}
	if !slices.Equal(utf.Runes(s), []rune(s)) {
		t.Error("Runes")
	}
	if utf.Is(s) || !utf.Is(strings.ReplaceAll(s, "\xff", "\xef\xbf\xbd")) {
		t.Error("Is")
	}
}

// P2.3

const unknown = "\xef\xbf\xbd"

func TestClean(t *testing.T) {
	for _, x := range [][2]string{
		{"", ""},
		{"plain text, \t and\nmore", "plain text, \t and\nmore"},
		{"\xc3\xa9\xe2\x82\xac\xf0\x9f\x94\x94", "\xc3\xa9\xe2\x82\xac\xf0\x9f\x94\x94"},
		{"a\r\nb\a", "a\nb" + unknown},
		// 13 before 10, and alone
		{"\r", "\n"},
		{"\r\n", "\n"},
		{"\n\r", "\n\n"},
		{"\r\r", "\n\n"},
		{"\r\r\n", "\n\n"},
		{"\r\n\r\n", "\n\n"},
		{"\r\n\n", "\n\n"},
		{"a\rb", "a\nb"},
		{"a\r", "a\n"},
		{"\r\xff\n", "\n" + unknown + "\n"},
		{"\r\xc3\xa9", "\n\xc3\xa9"},
		{"\r\x00\n", "\n" + unknown + "\n"},
		// what can't be displayed
		{"\x00\x1f\x7f", unknown + unknown + unknown},
		{" ~", " ~"},
		{"\xc2\x80\xc2\x85\xc2\x9f\xc2\xa0", unknown + unknown + unknown + "\xc2\xa0"},
		{"\v\f", unknown + unknown},
		// bad bytes
		{"\xff", unknown},
		{"\x80\x9f\xa0", unknown + unknown + unknown},
		{"\xc2", unknown},
		{"\xc2\n", unknown + "\n"},
		{"\xe2\x82", unknown + unknown},
		{"\xe2\x82\r\n", unknown + unknown + "\n"},
		{"\xc0\x8a", unknown + unknown},
		{"\xed\xa0\x80", unknown + unknown + unknown},
		{"\xf4\x90\x80\x80", unknown + unknown + unknown + unknown},
		// what stays
		{unknown, unknown},
		{"\xe2\x80\xa8\xe2\x80\xae\xef\xbb\xbf\xef\xbf\xbf", "\xe2\x80\xa8\xe2\x80\xae\xef\xbb\xbf\xef\xbf\xbf"},
	} {
		if got := utf.Clean(x[0]); got != x[1] {
			t.Errorf("Clean(%x) = %x, want %x", x[0], got, x[1])
		}
	}
}

func TestCleanOfEveryRune(t *testing.T) {
	for r := range rune(1114111 + 1) {
		if !isRune(r) {
			continue
		}
		want := encoding(r)
		switch {
		case r == 13:
			want = "\n"
		case r < 32 && r != 9 && r != 10, r == 127, r >= 128 && r <= 159:
			want = unknown
		}
		if got := utf.Clean(encoding(r)); got != want {
			t.Fatalf("Clean(%x) = %x, want %x", encoding(r), got, want)
		}
	}
}

func TestCleanOfEveryByte(t *testing.T) {
	for i := 128; i < 256; i++ {
		if got := utf.Clean(string([]byte{'a', byte(i), 'b'})); got != "a"+unknown+"b" {
			t.Errorf("byte %x: %x", i, got)
		}
	}
}

// pieces are joined to texts of all that sanitizing looks at.
var pieces = []string{"a", "\r", "\n", "\t", "\x7f", "\xc2", "\x85", "\xc3\xa9", "\xff"}

// P2.3 and, for each text, the first part of P2.5

func TestCleanStepByStep(t *testing.T) {
	words(pieces, 5, func(s string) {
		// Without bad bytes first, each later step is one on whole runes.
		want := strings.ReplaceAll(strings.ReplaceAll(string([]rune(s)), "\r\n", "\n"), "\r", "\n")
		want = strings.Map(func(r rune) rune {
			if r == 0x7f || r == 0x85 {
				return 65533
			}
			return r
		}, want)
		got := utf.Clean(s)
		if got != want {
			t.Fatalf("Clean(%x) = %x, want %x", s, got, want)
		}
		if !utf.Is(got) || !utf8.ValidString(got) {
			t.Fatalf("Clean(%x) = %x has bad bytes", s, got)
		}
		if again := utf.Clean(got); again != got {
			t.Fatalf("Clean(%x) = %x, and again %x", s, got, again)
		}
	})
}

// P2.4

func TestFront(t *testing.T) {
	for _, x := range []struct {
		s    string
		most int
		want string
	}{
		{"abc", 2, "ab"},
		{"abc", 3, "abc"},
		{"abc", 4, "abc"},
		{"a\xc3\xa9", 1, "a"},
		{"a\xc3\xa9", 2, "a"},
		{"a\xc3\xa9", 3, "a\xc3\xa9"},
		{"\xc3\xa9a", 1, ""},
		{"\xe2\x82\xaca", 2, ""},
		{"\xe2\x82\xaca", 3, "\xe2\x82\xac"},
		{"\xf0\x9f\x94\x94", 3, ""},
		{"\xf0\x9f\x94\x94", 4, "\xf0\x9f\x94\x94"},
		{"\xf0\x9f\x94\x94a", 4, "\xf0\x9f\x94\x94"},
		{"\xf0\x9f\x94\x94a", 5, "\xf0\x9f\x94\x94a"},
		// a rune that doesn't fit ends it, though a shorter one stands behind
		{"a\xe2\x82\xacb", 2, "a"},
		{"a\xe2\x82\xacb", 3, "a"},
		// a bad byte is a step
		{"a\xff\xff", 2, "a\xff"},
		{"\xe2\x82", 1, "\xe2"},
		{"\xed\xa0\x80", 2, "\xed\xa0"},
		{"\xe2\x82\xe2\x82\xac", 4, "\xe2\x82"},
		// unchanged otherwise
		{"a\r\n\x00", 4, "a\r\n\x00"},
		// limits below 1, and far away
		{"a", 0, ""},
		{"a", -1, ""},
		{"a", -5, ""},
		{"a", math.MinInt, ""},
		{"a", 1, "a"},
		{"a", 1 << 62, "a"},
		{"a\xff\xc3\xa9", math.MaxInt, "a\xff\xc3\xa9"},
		{"", 0, ""},
		{"", 5, ""},
		{"", -1, ""},
		{"", math.MinInt, ""},
		{"", math.MaxInt, ""},
	} {
		if got := utf.Front(x.s, x.most); got != x.want {
			t.Errorf("Front(%x, %d) = %x, want %x", x.s, x.most, got, x.want)
		}
	}
}

func TestFrontIsTheLongestOfWholeSteps(t *testing.T) {
	words(bytesOf("a\xff\xc3\xa9\xe2\x82\xac\xf0\x9f\x94"), 5, func(s string) {
		fronts := []string{""}
		for at := 0; at < len(s); {
			_, size := utf.Next(s, at)
			at += size
			fronts = append(fronts, s[:at])
		}
		for most := -1; most <= len(s)+1; most++ {
			want := ""
			for _, front := range fronts {
				if len(front) <= most {
					want = front
				}
			}
			if got := utf.Front(s, most); got != want {
				t.Fatalf("Front(%x, %d) = %x, want %x", s, most, got, want)
			}
		}
	})
}

// P2.5: the first part is held by TestCleanStepByStep too

func TestCleanOfEdges(t *testing.T) {
	words(bytesOf(edgeBytes), 4, func(s string) {
		clean := utf.Clean(s)
		if !utf8.ValidString(clean) || !utf.Is(clean) {
			t.Fatalf("Clean(%x) = %x has bad bytes", s, clean)
		}
		if again := utf.Clean(clean); again != clean {
			t.Fatalf("Clean(%x) = %x, and again %x", s, clean, again)
		}
	})
}

func TestBytesOfRunesAreTheText(t *testing.T) {
	joined := func(s string) string {
		var b []byte
		for _, r := range utf.Runes(s) {
			b = append(b, utf.Bytes(r)...)
		}
		return string(b)
	}
	words([]string{"a", "\r", "\x00", "\x7f", "\xc2\x80", "\xdf\xbf", "\xe0\xa0\x80", "\xef\xbf\xbd", "\xf0\x90\x80\x80", "\xf4\x8f\xbf\xbf"}, 4, func(s string) {
		if !utf.Is(s) {
			t.Fatalf("Is(%x) is false", s)
		}
		if got := joined(s); got != s {
			t.Fatalf("%x: %x", s, got)
		}
	})
	if got := joined("a\xffb"); got != "a"+unknown+"b" {
		t.Errorf("%x", got)
	}
}

// General rule 4

func TestAnswersAreNewMemory(t *testing.T) {
	s := strings.Repeat("text", 16)
	for _, got := range []string{utf.Clean(s), utf.Front(s, len(s)), utf.Front(s, len(s)-1)} {
		if unsafe.StringData(got) == unsafe.StringData(s) {
			t.Errorf("%q lies in the argument", got)
		}
	}
	first, second := utf.Runes(s), utf.Runes(s)
	first[0] = 'x'
	if second[0] != 't' {
		t.Error("two answers of Runes share memory")
	}
}
