package octet_test

import (
	"fmt"
	"math"
	"strings"
	"testing"

	"nuncio/octet"
)

// P1.2

func TestPair(t *testing.T) {
	for i := range 256 {
		if got, want := octet.Pair(byte(i)), fmt.Sprintf("%02X", i); got != want {
			t.Errorf("Pair(%d) = %q", i, got)
		}
	}
}

func TestByte(t *testing.T) {
	for _, x := range []struct {
		s    string
		at   int
		want byte
		ok   bool
	}{
		{"%c3", 1, 0xc3, true},
		{"%C3", 1, 0xc3, true},
		{"aF", 0, 0xaf, true},
		{"Fa", 0, 0xfa, true},
		{"00", 0, 0, true},
		{"0123", 2, 0x23, true},
		{"xx7fxx", 2, 0x7f, true},
		{"", 0, 0, false},
		{"a", 0, 0, false},
		{"%c", 1, 0, false},
		{"%c3", 2, 0, false},
		{"%c3", 3, 0, false},
		{"%c3", 4, 0, false},
		{"%c3", 0, 0, false},
		{"00", 1, 0, false},
		{"12", -1, 0, false},
		{"12", -2, 0, false},
		{"12", math.MinInt, 0, false},
		{"12", math.MaxInt, 0, false},
		{"12", math.MaxInt - 1, 0, false},
		{"", math.MaxInt, 0, false},
		{"0g", 0, 0, false},
		{"g0", 0, 0, false},
		{" 1", 0, 0, false},
		{"+1", 0, 0, false},
		{"\xff\xff", 0, 0, false},
	} {
		if got, ok := octet.Byte(x.s, x.at); got != x.want || ok != x.ok {
			t.Errorf("Byte(%q, %d) = %d, %v", x.s, x.at, got, ok)
		}
	}
}

func TestByteOfEveryTwoBytes(t *testing.T) {
	const small, large = "0123456789abcdef", "0123456789ABCDEF"
	value := func(c byte) int {
		return max(strings.IndexByte(small, c), strings.IndexByte(large, c))
	}
	for i := range 256 {
		for j := range 256 {
			high, low := value(byte(i)), value(byte(j))
			ok := high >= 0 && low >= 0
			want := byte(0)
			if ok {
				want = byte(high*16 + low)
			}
			s := string([]byte{byte(i), byte(j)})
			if got, is := octet.Byte(s, 0); got != want || is != ok {
				t.Fatalf("Byte(%q, 0) = %d, %v", s, got, is)
			}
		}
	}
}

// P1.5, the part of Byte and Pair

func TestByteUndoesPair(t *testing.T) {
	for i := range 256 {
		pair := octet.Pair(byte(i))
		for _, s := range []string{pair, strings.ToLower(pair)} {
			if got, ok := octet.Byte(s, 0); got != byte(i) || !ok {
				t.Errorf("Byte(%q, 0) = %d, %v", s, got, ok)
			}
		}
	}
}
