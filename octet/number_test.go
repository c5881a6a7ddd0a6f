package octet_test

import (
	"math"
	"strconv"
	"testing"

	"nuncio/octet"
)

// edges lists numbers about each power of 2 and of 10, of both signs: there digits, signs and overflows change.
func edges() []int {
	l := []int{math.MinInt, math.MaxInt}
	around := func(n int) {
		for d := -2; d <= 2; d++ {
			l = append(l, n+d, -n+d)
		}
	}
	for i := range 63 {
		around(1 << i)
	}
	for n, i := 1, 0; i < 19; n, i = n*10, i+1 {
		around(n)
	}
	return l
}

// P1.1

func TestText(t *testing.T) {
	for _, x := range []struct {
		n    int
		want string
	}{
		{0, "0"},
		{7, "7"},
		{10, "10"},
		{-1, "-1"},
		{-120, "-120"},
		{1<<31 - 1, "2147483647"},
		{-1 << 63, "-9223372036854775808"},
		{1<<63 - 1, "9223372036854775807"},
	} {
		if got := octet.Text(x.n); got != x.want {
			t.Errorf("Text(%d) = %q", x.n, got)
		}
	}
	for _, n := range edges() {
		if got := octet.Text(n); got != strconv.Itoa(n) {
			t.Errorf("Text(%d) = %q", n, got)
		}
	}
}

func TestNumber(t *testing.T) {
	for _, x := range []struct {
		s    string
		want int
	}{
		{"0", 0},
		{"9", 9},
		{"10", 10},
		{"-1", -1},
		{"-120", -120},
		{"1000000000000000000", 1000000000000000000},
		{"9223372036854775806", 1<<63 - 2},
		{"9223372036854775807", 1<<63 - 1},
		{"-9223372036854775807", -1<<63 + 1},
		{"-9223372036854775808", -1 << 63},
	} {
		if got, ok := octet.Number(x.s); got != x.want || !ok {
			t.Errorf("Number(%q) = %d, %v", x.s, got, ok)
		}
	}
}

func TestNumberRefuses(t *testing.T) {
	for _, s := range []string{
		"", "-", "--1", "+", "+5", "+0", "-0", "00", "-00", "007", "-007", "01", "-01",
		" 1", "1 ", "1x", "x1", "1-", "1.0", "1e3", "0x1", "1_000", "1\x00", "\xff", "\u0661", "/", ":", "1/", "1:", "a",
		"9223372036854775808", "-9223372036854775809", "9999999999999999999", "-9999999999999999999",
		"10000000000000000000", "18446744073709551615", "18446744073709551616", "18446744073709551617", "-18446744073709551615",
		"-18446744073709551617", "100000000000000000000", "-100000000000000000000", "340282366920938463463374607431768211457",
		"00000000000000000000000000000000000000001",
	} {
		if got, ok := octet.Number(s); got != 0 || ok {
			t.Errorf("Number(%q) = %d, %v", s, got, ok)
		}
	}
}

func TestNumberIsExactlyWhatTextWrites(t *testing.T) {
	words("-+0159 .", 5, func(s string) {
		want, err := strconv.Atoi(s)
		written := err == nil && strconv.Itoa(want) == s
		if !written {
			want = 0
		}
		if got, ok := octet.Number(s); got != want || ok != written {
			t.Fatalf("Number(%q) = %d, %v", s, got, ok)
		}
	})
}

// P1.5, the part of Number and Text

func TestNumberUndoesText(t *testing.T) {
	for n := -1100; n <= 1100; n++ {
		if got, ok := octet.Number(octet.Text(n)); got != n || !ok {
			t.Errorf("%d: %d, %v", n, got, ok)
		}
	}
	for _, n := range edges() {
		if got, ok := octet.Number(octet.Text(n)); got != n || !ok {
			t.Errorf("%d: %d, %v", n, got, ok)
		}
	}
}
