package octet_test

import (
	"math"
	"slices"
	"strings"
	"testing"

	"nuncio/octet"
)

// everyByte is used where a promise speaks of all other bytes.
func everyByte() string {
	b := make([]byte, 256)
	for i := range b {
		b[i] = byte(i)
	}
	return string(b)
}

// words calls do with each text of at most most bytes of alphabet.
func words(alphabet string, most int, do func(string)) {
	level := []string{""}
	for range most + 1 {
		var next []string
		for _, w := range level {
			do(w)
			for i := range len(alphabet) {
				next = append(next, w+alphabet[i:i+1])
			}
		}
		level = next
	}
}

// P1.3

func TestFoldEveryByte(t *testing.T) {
	const upper = "ABCDEFGHIJKLMNOPQRSTUVWXYZ"
	const lower = "abcdefghijklmnopqrstuvwxyz"
	for i := range 256 {
		s := string([]byte{byte(i)})
		want := s
		if at := strings.IndexByte(upper, byte(i)); at >= 0 {
			want = lower[at : at+1]
		}
		if got := octet.Fold(s); got != want {
			t.Errorf("Fold(%q) = %q, want %q", s, got, want)
		}
	}
}

func TestFoldTexts(t *testing.T) {
	for _, x := range []struct{ s, want string }{
		{"", ""},
		{"Content-TYPE", "content-type"},
		{"already small", "already small"},
		{"@AZ[`az{", "@az[`az{"},
		{"\xc3\x84\xff\x00A", "\xc3\x84\xff\x00a"},
		{"\u212a\u0130", "\u212a\u0130"}, // other alphabets' rules of small letters don't hold here
	} {
		if got := octet.Fold(x.s); got != x.want {
			t.Errorf("Fold(%q) = %q, want %q", x.s, got, x.want)
		}
	}
}

func TestAlikeEveryTwoBytes(t *testing.T) {
	for i := range 256 {
		for j := range 256 {
			a, b := string([]byte{byte(i)}), string([]byte{byte(j)})
			if got, want := octet.Alike(a, b), octet.Fold(a) == octet.Fold(b); got != want {
				t.Fatalf("Alike(%q, %q) = %v", a, b, got)
			}
		}
	}
}

func TestAlikeTexts(t *testing.T) {
	for _, x := range []struct {
		a, b string
		want bool
	}{
		{"", "", true},
		{"Content-TYPE", "cONTENT-type", true},
		{"\xc3A", "\xc3a", true},
		{"", "a", false},
		{"a", "", false},
		{"abc", "abcd", false},
		{"abcd", "ABC", false},
		{"abc", "abd", false},
		{"xbc", "abc", false},
		{"[", "{", false},
		{"@", "`", false},
		{"\u00c4", "\u00e4", false},
		{"k", "\u212a", false},
	} {
		if got := octet.Alike(x.a, x.b); got != x.want {
			t.Errorf("Alike(%q, %q) = %v", x.a, x.b, got)
		}
	}
}

// P1.4

func TestCut(t *testing.T) {
	for _, x := range []struct {
		s    string
		by   byte
		want []string
	}{
		{"a;;b", ';', []string{"a", "", "b"}},
		{"", ';', []string{""}},
		{"abc", ';', []string{"abc"}},
		{";", ';', []string{"", ""}},
		{";a", ';', []string{"", "a"}},
		{"a;", ';', []string{"a", ""}},
		{";;;", ';', []string{"", "", "", ""}},
		{"a,b;c", ',', []string{"a", "b;c"}},
		{"\x00\xff\x00", 0, []string{"", "\xff", ""}},
		{"\xc3\xa9", 0xa9, []string{"\xc3", ""}}, // bytes, not runes
	} {
		if got := octet.Cut(x.s, x.by); !slices.Equal(got, x.want) {
			t.Errorf("Cut(%q, %q) = %q, want %q", x.s, x.by, got, x.want)
		}
	}
}

func TestCutHasOnePartMoreThanBys(t *testing.T) {
	words("a;\xff", 6, func(s string) {
		l := octet.Cut(s, ';')
		if len(l) != strings.Count(s, ";")+1 {
			t.Fatalf("Cut(%q) = %q", s, l)
		}
		for _, part := range l {
			if strings.Contains(part, ";") {
				t.Fatalf("Cut(%q) = %q", s, l)
			}
		}
	})
}

func TestJoin(t *testing.T) {
	for _, x := range []struct {
		l    []string
		by   string
		want string
	}{
		{nil, ",", ""},
		{[]string{}, ",", ""},
		{[]string{""}, ",", ""},
		{[]string{"a"}, ",", "a"},
		{[]string{"a", "b"}, "", "ab"},
		{[]string{"a", "", "b"}, ", ", "a, , b"},
		{[]string{"", ""}, ",", ","},
		{[]string{"", "a", ""}, "\r\n", "\r\na\r\n"},
		{[]string{"\xff", "\x00"}, "\xc3", "\xff\xc3\x00"},
	} {
		was := slices.Clone(x.l)
		if got := octet.Join(x.l, x.by); got != x.want {
			t.Errorf("Join(%q, %q) = %q, want %q", x.l, x.by, got, x.want)
		}
		if !slices.Equal(x.l, was) {
			t.Errorf("Join changed %q into %q", was, x.l)
		}
	}
}

func TestTrim(t *testing.T) {
	for _, x := range []struct{ s, want string }{
		{"", ""},
		{" ", ""},
		{" \t", ""},
		{"\t \t ", ""},
		{"a", "a"},
		{" a", "a"},
		{"a\t", "a"},
		{" \t a b \t c \t", "a b \t c"},
		{" \t a \n \t", "a \n"},
	} {
		if got := octet.Trim(x.s); got != x.want {
			t.Errorf("Trim(%q) = %q, want %q", x.s, got, x.want)
		}
	}
}

func TestTrimTakesBlanksOnly(t *testing.T) {
	for i := range 256 {
		s := string([]byte{byte(i)})
		want := s
		if i == 32 || i == 9 {
			want = ""
		}
		if got := octet.Trim(s); got != want {
			t.Errorf("Trim(%q) = %q, want %q", s, got, want)
		}
	}
	if s := "\u00a0a\u2003"; octet.Trim(s) != s {
		t.Errorf("Trim(%q) = %q", s, octet.Trim(s))
	}
}

func TestBegins(t *testing.T) {
	for _, x := range []struct {
		s, with string
		at      int
		want    bool
	}{
		{"abc", "abc", 0, true},
		{"abc", "bc", 1, true},
		{"abc", "b", 1, true},
		{"abc", "c", 2, true},
		{"a\xffc", "\xffc", 1, true},
		{"abc", "b", 0, false},
		{"abc", "B", 1, false},
		{"abc", "bc", 2, false},
		{"abc", "bcd", 1, false},
		{"abc", "abcd", 0, false},
		{"abc", "c", 3, false},
		{"abc", "a", -1, false},
		{"abc", "a", 4, false},
		{"abc", "a", math.MinInt, false},
		{"abc", "a", math.MaxInt, false},
		{"abc", "", -1, false},
		{"abc", "", 0, true},
		{"abc", "", 1, true},
		{"abc", "", 3, true},
		{"abc", "", 4, false},
		{"abc", "", math.MinInt, false},
		{"abc", "", math.MaxInt, false},
		{"", "", 0, true},
		{"", "", 1, false},
		{"", "a", 0, false},
	} {
		if got := octet.Begins(x.s, x.with, x.at); got != x.want {
			t.Errorf("Begins(%q, %q, %d) = %v", x.s, x.with, x.at, got)
		}
	}
}

// P1.5, the part of Cut and Join

func TestJoinUndoesCut(t *testing.T) {
	words(";a\xff", 6, func(s string) {
		for _, by := range []byte{';', 'a', 0xff, 0} {
			if got := octet.Join(octet.Cut(s, by), string([]byte{by})); got != s {
				t.Fatalf("Join(Cut(%q, %q)) = %q", s, by, got)
			}
		}
	})
	all := everyByte()
	for i := range 256 {
		if got := octet.Join(octet.Cut(all, byte(i)), string([]byte{byte(i)})); got != all {
			t.Fatalf("by %d: %q", i, got)
		}
	}
}
