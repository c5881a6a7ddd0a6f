package find_test

import (
	"math"
	"math/rand"
	"slices"
	"strings"
	"testing"
	"unsafe"

	"nuncio/api"
	"nuncio/find"
)

func made(t *testing.T, l ...string) *find.Many {
	t.Helper()
	m, e := find.New(l...)
	if m == nil || e != api.OK {
		t.Fatalf("New(%.100q) = %v, %d", l, m, e)
	}
	return m
}

// hitsOf is the chapter's definition of the hits, in their order.
func hitsOf(l []string, s string) []find.Hit {
	var hits []find.Hit
	for at := range len(s) {
		for i, p := range l {
			if p != "" && strings.HasPrefix(s[at:], p) {
				hits = append(hits, find.Hit{At: at, Which: i})
			}
		}
	}
	return hits
}

// firstOf picks from hits in order.
func firstOf(hits []find.Hit, from int) (find.Hit, bool) {
	for _, h := range hits {
		if h.At >= from {
			return h, true
		}
	}
	return find.Hit{}, false
}

// blotOf is the chapter's definition of what Blot returns.
func blotOf(l []string, hits []find.Hit, s string, by byte) (string, int) {
	covered := make([]bool, len(s))
	for _, h := range hits {
		for i := range len(l[h.Which]) {
			covered[h.At+i] = true
		}
	}
	b, n := []byte(s), 0
	for i, is := range covered {
		if is {
			b[i] = by
			n++
		}
	}
	return string(b), n
}

// asDefined holds all that m, made of l, tells of s against the definitions.
func asDefined(t *testing.T, m *find.Many, l []string, s string) {
	t.Helper()
	hits := hitsOf(l, s)
	if got := m.Hits(s); !slices.Equal(got, hits) {
		t.Fatalf("of %q: Hits(%q) = %v, want %v", l, s, got, hits)
	}
	if got := m.Has(s); got != (len(hits) > 0) {
		t.Fatalf("of %q: Has(%q) = %v", l, s, got)
	}
	for from := -1; from <= len(s)+1; from++ {
		want, found := firstOf(hits, from)
		if got, ok := m.First(s, from); got != want || ok != found {
			t.Fatalf("of %q: First(%q, %d) = %v, %v, want %v, %v", l, s, from, got, ok, want, found)
		}
	}
	for _, by := range []byte{'*', 'a'} {
		want, count := blotOf(l, hits, s, by)
		if got, n := m.Blot(s, by); got != want || n != count {
			t.Fatalf("of %q: Blot(%q, %q) = %q, %d, want %q, %d", l, s, by, got, n, want, count)
		}
	}
}

// words lists each text of the bytes of letters that has at most most of them, the shortest first.
func words(letters string, most int) []string {
	l := []string{""}
	for from := 0; most > 0; most-- {
		to := len(l)
		for _, w := range l[from:to] {
			for i := range len(letters) {
				l = append(l, w+letters[i:i+1])
			}
		}
		from = to
	}
	return l
}

var offsets = []int{math.MinInt, math.MinInt + 1, -1 << 31, -2, -1, 0, 1, 2, 1 << 31, math.MaxInt - 1, math.MaxInt}

// P3.1

func TestLen(t *testing.T) {
	for _, x := range []struct {
		l    []string
		want int
	}{
		{nil, 0},
		{[]string{}, 0},
		{[]string{""}, 1},
		{[]string{"", "", ""}, 3},
		{[]string{"a"}, 1},
		{[]string{"a", "a", "a"}, 3},
		{[]string{"he", "she", "hers", "", "he"}, 5},
		{[]string{"\x00", "\xff"}, 2},
	} {
		if got := made(t, x.l...).Len(); got != x.want {
			t.Errorf("Len of %q = %d", x.l, got)
		}
	}
}

func TestNewCountsPatterns(t *testing.T) {
	for _, x := range []struct {
		count int
		want  api.Errno
	}{
		{255, api.OK},
		{256, api.OK},
		{257, api.ErrFull},
		{1000, api.ErrFull},
	} {
		for _, p := range []string{"", "a", "ab"} { // empty ones and duplicates count too
			m, e := find.New(slices.Repeat([]string{p}, x.count)...)
			if e != x.want || (m == nil) != (x.want != api.OK) {
				t.Errorf("New of %d times %q = %v, %d", x.count, p, m, e)
			}
			if m != nil && m.Len() != x.count {
				t.Errorf("Len of %d times %q = %d", x.count, p, m.Len())
			}
		}
	}
}

func TestNewCountsBytes(t *testing.T) {
	whole := strings.Repeat("a", 65536)
	for _, x := range []struct {
		name string
		l    []string
		want api.Errno
	}{
		{"65535 in one", []string{whole[1:]}, api.OK},
		{"65536 in one", []string{whole}, api.OK},
		{"65537 in one", []string{whole + "a"}, api.ErrLong},
		{"65536 in two", []string{whole[1:], "b"}, api.OK},
		{"65537 in two", []string{whole, "b"}, api.ErrLong},
		{"65536 and empty ones", []string{"", whole, "", ""}, api.OK},
		{"65536 of duplicates", []string{whole[:32768], whole[:32768]}, api.OK},
		{"65537 of duplicates and one", []string{whole[:32768], "b", whole[:32768]}, api.ErrLong},
		{"65536 in 256", slices.Repeat([]string{whole[:256]}, 256), api.OK},
		{"65537 in 256", append(slices.Repeat([]string{whole[:256]}, 255), whole[:257]), api.ErrLong},
	} {
		m, e := find.New(x.l...)
		if e != x.want || (m == nil) != (x.want != api.OK) {
			t.Errorf("%s: %v, %d", x.name, m != nil, e)
			continue
		}
		if m != nil && (m.Len() != len(x.l) || !m.Has(whole)) {
			t.Errorf("%s: Len = %d, Has = %v", x.name, m.Len(), m.Has(whole))
		}
	}
}

func TestTooManyComesBeforeTooLong(t *testing.T) {
	long := strings.Repeat("a", 65537)
	l := make([]string, 257)
	l[0] = long
	if m, e := find.New(l...); m != nil || e != api.ErrFull {
		t.Errorf("a long one first: %d", e)
	}
	if m, e := find.New(l[:256]...); m != nil || e != api.ErrLong {
		t.Errorf("256 with a long one: %d", e)
	}
	if m, e := find.New(slices.Repeat([]string{long}, 300)...); m != nil || e != api.ErrFull {
		t.Errorf("300 long ones: %d", e)
	}
}

// P3.2

func TestHits(t *testing.T) {
	for _, x := range []struct {
		name string
		l    []string
		s    string
		want []find.Hit
	}{
		{"ordinary", []string{"he", "she", "hers"}, "ushers", []find.Hit{{1, 1}, {2, 0}, {2, 2}}},
		{"not there", []string{"he", "she"}, "us", nil},
		{"an empty string", []string{"a", ""}, "", nil},
		{"no pattern", nil, "abc", nil},
		{"an empty pattern", []string{""}, "abc", nil},
		{"empty ones among others", []string{"", "b", "", "c", ""}, "abc", []find.Hit{{1, 1}, {2, 3}}},
		{"duplicates", []string{"b", "ab", "b", "b"}, "abb", []find.Hit{{0, 1}, {1, 0}, {1, 2}, {1, 3}, {2, 0}, {2, 2}, {2, 3}}},
		{"prefixes, the shortest first", []string{"a", "ab", "abc"}, "xabcab", []find.Hit{{1, 0}, {1, 1}, {1, 2}, {4, 0}, {4, 1}}},
		{"prefixes, the longest first", []string{"abc", "ab", "a"}, "xabcab", []find.Hit{{1, 0}, {1, 1}, {1, 2}, {4, 1}, {4, 2}}},
		{"suffixes, the shortest first", []string{"c", "bc", "abc"}, "abcbc", []find.Hit{{0, 2}, {1, 1}, {2, 0}, {3, 1}, {4, 0}}},
		{"suffixes, the longest first", []string{"abc", "bc", "c"}, "abcbc", []find.Hit{{0, 0}, {1, 1}, {2, 2}, {3, 1}, {4, 2}}},
		{"one within another", []string{"abcd", "bc"}, "abcx abcd", []find.Hit{{1, 1}, {5, 0}, {6, 1}}},
		{"a pattern overlapping itself", []string{"aa"}, "aaaa", []find.Hit{{0, 0}, {1, 0}, {2, 0}}},
		{"patterns overlapping each other", []string{"ana", "nan"}, "banana", []find.Hit{{1, 0}, {2, 1}, {3, 0}}},
		{"at the end", []string{"rs", "s"}, "others", []find.Hit{{4, 0}, {5, 1}}},
		{"the whole string", []string{"ushers"}, "ushers", []find.Hit{{0, 0}}},
		{"longer than the string", []string{"ushers!"}, "ushers", nil},
		{"cut off by the end", []string{"ab"}, "xa", nil},
		{"begun anew within a beginning", []string{"aab"}, "aaab", []find.Hit{{1, 0}}},
		{"a lesser one found when a greater one fails", []string{"abcde", "cdf"}, "abcdf", []find.Hit{{2, 1}}},
		{"any bytes", []string{"\x00", "\xff\x00", "\xc3"}, "\xc3\xff\x00", []find.Hit{{0, 2}, {1, 1}, {2, 0}}},
		{"no folding", []string{"A"}, "aA", []find.Hit{{1, 0}}},
	} {
		m := made(t, x.l...)
		if got := m.Hits(x.s); !slices.Equal(got, x.want) {
			t.Errorf("%s: Hits = %v, want %v", x.name, got, x.want)
		}
		if got := m.Has(x.s); got != (len(x.want) > 0) {
			t.Errorf("%s: Has = %v", x.name, got)
		}
		asDefined(t, m, x.l, x.s)
	}
}

func TestFirst(t *testing.T) {
	for _, x := range []struct {
		name  string
		l     []string
		s     string
		from  int
		want  find.Hit
		found bool
	}{
		{"from the beginning", []string{"he", "she", "hers"}, "ushers", 0, find.Hit{At: 1, Which: 1}, true},
		{"from a hit on", []string{"he", "she", "hers"}, "ushers", 1, find.Hit{At: 1, Which: 1}, true},
		{"from within a hit on", []string{"he", "she", "hers"}, "ushers", 2, find.Hit{At: 2, Which: 0}, true},
		{"from behind all", []string{"he", "she", "hers"}, "ushers", 3, find.Hit{}, false},
		{"not within what lies before", []string{"ab"}, "abab", 1, find.Hit{At: 2}, true},
		{"an earlier one that ends later", []string{"bc", "abcd"}, "abcd", 0, find.Hit{At: 0, Which: 1}, true},
		{"a lesser index that ends later", []string{"abc", "a"}, "abc", 0, find.Hit{At: 0, Which: 0}, true},
		{"a lesser index that ends earlier", []string{"a", "abc"}, "abc", 0, find.Hit{At: 0, Which: 0}, true},
		{"a lesser index that fails", []string{"abd", "a"}, "abc", 0, find.Hit{At: 0, Which: 1}, true},
		{"an earlier one that fails", []string{"abcd", "bc"}, "abcx", 0, find.Hit{At: 1, Which: 1}, true},
		{"an earlier one that the end cuts off", []string{"abcd", "bc"}, "abc", 0, find.Hit{At: 1, Which: 1}, true},
		{"duplicates", []string{"b", "a", "a"}, "xa", 0, find.Hit{At: 1, Which: 1}, true},
		{"an empty pattern before it", []string{"", "a"}, "xa", 0, find.Hit{At: 1, Which: 1}, true},
		{"the last byte", []string{"a"}, "xxa", 2, find.Hit{At: 2}, true},
		{"the end", []string{"a", ""}, "xxa", 3, find.Hit{}, false},
		{"behind the end", []string{"a", ""}, "xxa", 4, find.Hit{}, false},
		{"before the beginning", []string{"a"}, "xxa", -7, find.Hit{At: 2}, true},
		{"no pattern", nil, "a", 0, find.Hit{}, false},
		{"an empty pattern", []string{""}, "a", 0, find.Hit{}, false},
		{"an empty string", []string{"a", ""}, "", 0, find.Hit{}, false},
	} {
		if got, ok := made(t, x.l...).First(x.s, x.from); got != x.want || ok != x.found {
			t.Errorf("%s: First = %v, %v", x.name, got, ok)
		}
	}
}

func TestFirstFromFarAway(t *testing.T) {
	m := made(t, "b", "ab")
	for _, from := range offsets {
		want, found := firstOf([]find.Hit{{0, 1}, {1, 0}}, from)
		if got, ok := m.First("ab", from); got != want || ok != found {
			t.Errorf("First(ab, %d) = %v, %v", from, got, ok)
		}
		if got, ok := m.First("", from); got != (find.Hit{}) || ok {
			t.Errorf("First of an empty string, %d = %v, %v", from, got, ok)
		}
	}
}

// P3.2 and P3.3, and P3.5's found pattern, against the definitions

func TestAllSmallOnesAreAsDefined(t *testing.T) {
	patterns, strs := words("ab", 2), words("ab", 5)
	for _, a := range patterns {
		for _, b := range patterns {
			for _, c := range patterns {
				l := []string{a, b, c}
				m := made(t, l...)
				for _, s := range strs {
					asDefined(t, m, l, s)
				}
			}
		}
	}
}

func TestAllPairsOfLongerOnesAreAsDefined(t *testing.T) {
	patterns, strs := words("ab", 4), words("ab", 6)
	for _, a := range patterns {
		for _, b := range patterns {
			l := []string{a, b}
			m := made(t, l...)
			for _, s := range strs {
				asDefined(t, m, l, s)
			}
		}
	}
}

func TestManyPatternsAreAsDefined(t *testing.T) {
	r := rand.New(rand.NewSource(3))
	text := func(letters string, most int) string {
		b := make([]byte, r.Intn(most+1))
		for i := range b {
			b[i] = letters[r.Intn(len(letters))]
		}
		return string(b)
	}
	for _, letters := range []string{"a", "ab", "abc", "\x00a\xff"} {
		for range 100 {
			l := make([]string, r.Intn(257))
			for i := range l {
				l[i] = text(letters, 12)
			}
			asDefined(t, made(t, l...), l, text(letters, 60))
		}
	}
}

func TestEveryByte(t *testing.T) {
	var l []string
	var all []byte
	for i := range 256 {
		l = append(l, string([]byte{byte(i)}))
		all = append(all, byte(i))
	}
	m := made(t, l...)
	asDefined(t, m, l, string(all))
	slices.Reverse(all)
	asDefined(t, m, l, string(all))
}

// P3.3

func TestBlot(t *testing.T) {
	for _, x := range []struct {
		name string
		l    []string
		s    string
		by   byte
		want string
		n    int
	}{
		{"ordinary", []string{"it"}, "unit a", '*', "un** a", 2},
		{"not there", []string{"it"}, "none", '*', "none", 0},
		{"several hits", []string{"he", "she", "hers"}, "he ushers", '*', "** u*****", 7},
		{"bytes that two hits cover count once", []string{"ana"}, "banana", '*', "b*****", 5},
		{"hits side by side", []string{"ab"}, "ababa", '*', "****a", 4},
		{"a hit that joins those before it", []string{"b", "d", "abcde"}, "xbdabcdex", '.', "x.......x", 7},
		{"duplicates count once", []string{"a", "a", "a"}, "bab", '*', "b*b", 1},
		{"one within another counts once", []string{"b", "abc"}, "abc b", '*', "*** *", 4},
		{"the longest of prefixes", []string{"a", "ab", "abc"}, "abcabx", '*', "*****x", 5},
		{"the longest of suffixes", []string{"c", "bc", "abc"}, "abcxbc", '*', "***x**", 5},
		{"the whole string", []string{"abc"}, "abc", 0, "\x00\x00\x00", 3},
		{"the end", []string{"c"}, "abc", 0xff, "ab\xff", 1},
		{"by a byte of a pattern", []string{"ab"}, "abab", 'a', "aaaa", 4},
		{"by a byte that makes a new hit", []string{"ab", "cc"}, "accb", 'b', "abbb", 2},
		{"by the byte that stands there", []string{"a"}, "xa", 'a', "xa", 1},
		{"no pattern", nil, "abc", '*', "abc", 0},
		{"an empty pattern", []string{""}, "abc", '*', "abc", 0},
		{"an empty string", []string{"a", ""}, "", '*', "", 0},
		{"any bytes", []string{"\xff\x00"}, "\xff\xff\x00\x00", '*', "\xff**\x00", 2},
	} {
		m := made(t, x.l...)
		if got, n := m.Blot(x.s, x.by); got != x.want || n != x.n {
			t.Errorf("%s: Blot = %q, %d", x.name, got, n)
		}
		asDefined(t, m, x.l, x.s)
	}
}

// P3.4

func TestAt(t *testing.T) {
	for _, x := range []struct {
		s, what    string
		from, want int
	}{
		{"banana", "ana", 0, 1},
		{"banana", "ana", 1, 1},
		{"banana", "ana", 2, 3},
		{"banana", "ana", 3, 3},
		{"banana", "ana", 4, -1},
		{"banana", "b", 0, 0},
		{"banana", "b", -1, 0},
		{"banana", "b", 1, -1},
		{"banana", "a", 5, 5},
		{"banana", "a", 6, -1},
		{"banana", "a", 7, -1},
		{"banana", "banana", 0, 0},
		{"banana", "bananas", 0, -1},
		{"banana", "B", 0, -1},
		{"banana", "", 0, -1},
		{"banana", "", 3, -1},
		{"banana", "", 6, -1},
		{"banana", "", -1, -1},
		{"", "", 0, -1},
		{"", "a", 0, -1},
		{"aaab", "aab", 0, 1},
		{"\xff\x00\xff", "\xff", 1, 2},
	} {
		if got := find.At(x.s, x.what, x.from); got != x.want {
			t.Errorf("At(%q, %q, %d) = %d", x.s, x.what, x.from, got)
		}
	}
}

func TestAtFromFarAway(t *testing.T) {
	for _, from := range offsets {
		want := -1
		if from <= 1 {
			want = 1
		}
		if got := find.At("xab", "ab", from); got != want {
			t.Errorf("At(xab, ab, %d) = %d", from, got)
		}
		if find.At("xab", "", from) != -1 || find.At("", "a", from) != -1 || find.At("", "", from) != -1 {
			t.Errorf("At from %d finds what isn't there", from)
		}
	}
}

func TestAtIsTheFirstOfOne(t *testing.T) {
	for _, what := range words("ab", 3) {
		m := made(t, what)
		for _, s := range words("ab", 6) {
			for from := -1; from <= len(s)+1; from++ {
				want := -1
				if h, ok := m.First(s, from); ok {
					want = h.At
				}
				if got := find.At(s, what, from); got != want {
					t.Fatalf("At(%q, %q, %d) = %d, want %d", s, what, from, got, want)
				}
			}
		}
	}
}

// P3.5: beside what asDefined holds, for what is too long to be held against the definitions

func TestEveryPatternThatOccursIsFound(t *testing.T) {
	r := rand.New(rand.NewSource(5))
	b := make([]byte, 1<<16)
	for i := range b {
		b[i] = "ab"[r.Intn(2)]
	}
	s := string(b)
	var l []string
	for i := range 256 {
		from := r.Intn(len(s) - 250)
		l = append(l, s[from:from+i%250+1])
	}
	m := made(t, l...)
	found := make([]bool, len(l))
	hits := m.Hits(s)
	for i, h := range hits {
		if !strings.HasPrefix(s[h.At:], l[h.Which]) {
			t.Fatalf("%v: %q isn't there", h, l[h.Which])
		}
		if i > 0 && (h.At < hits[i-1].At || h.At == hits[i-1].At && h.Which <= hits[i-1].Which) {
			t.Fatalf("%v follows %v", h, hits[i-1])
		}
		found[h.Which] = true
	}
	count := 0
	for i, p := range l {
		if !found[i] || !made(t, p).Has(s) {
			t.Errorf("%q isn't found", p)
		}
		for at := find.At(s, p, 0); at >= 0; at = find.At(s, p, at+1) {
			count++
		}
	}
	if len(hits) != count {
		t.Errorf("%d hits, want %d", len(hits), count)
	}
	if h, ok := m.First(s, 0); !ok || h != hits[0] || !m.Has(s) {
		t.Errorf("First = %v, %v", h, ok)
	}
}

func TestBlotLeavesNoHits(t *testing.T) {
	patterns := words("ab", 3)
	for _, a := range patterns {
		for _, b := range patterns {
			m := made(t, a, b)
			for _, s := range words("ab", 6) {
				blotted, n := m.Blot(s, '*')
				if m.Has(blotted) || len(m.Hits(blotted)) != 0 {
					t.Fatalf("of %q, %q: Blot(%q) = %q", a, b, s, blotted)
				}
				if n != strings.Count(blotted, "*") || len(blotted) != len(s) {
					t.Fatalf("of %q, %q: Blot(%q) = %q, %d", a, b, s, blotted, n)
				}
			}
		}
	}
}

// The time that a search takes hangs on the lengths alone: these would take hours if it hung on their product.

func TestLongPatternsInLongStrings(t *testing.T) {
	long, half := strings.Repeat("a", 1<<20), strings.Repeat("a", 32768)
	m := made(t, half, half[1:]+"b")
	if m.Has(half[2:]+"b") || !m.Has(long) || !m.Has(half[1:]+"b") {
		t.Error("Has")
	}
	if h, ok := m.First(long+"b", len(long)-32767); h != (find.Hit{At: len(long) - 32767, Which: 1}) || !ok {
		t.Error("First", h, ok)
	}
	if got := m.Hits(long); len(got) != len(long)-32767 || got[len(got)-1] != (find.Hit{At: len(long) - 32768}) {
		t.Error("Hits", len(got))
	}
	if got, n := m.Blot("b"+long+"c", '*'); got != "b"+strings.Repeat("*", 1<<20)+"c" || n != 1<<20 {
		t.Error("Blot", n)
	}
	if m = made(t, half+"b"); m.Has(long) || find.At(long, half+"b", 0) != -1 {
		t.Error("found what isn't there")
	}
}

// General rule 3, and the chapter's own word on Blot

func TestManyThatNewDidNotMake(t *testing.T) {
	for _, m := range []*find.Many{nil, {}, new(find.Many)} {
		if m.Len() != 0 || m.Has("abc") || m.Has("") || len(m.Hits("abc")) != 0 || len(m.Hits("")) != 0 {
			t.Errorf("%p has patterns", m)
		}
		for _, from := range offsets {
			if h, ok := m.First("abc", from); h != (find.Hit{}) || ok {
				t.Errorf("First(abc, %d) = %v, %v", from, h, ok)
			}
		}
		for _, s := range []string{"", "abc", "\x00\xff"} {
			if got, n := m.Blot(s, '*'); got != s || n != 0 {
				t.Errorf("Blot(%q) = %q, %d", s, got, n)
			}
		}
	}
}

// General rules 4 and 5

func TestPatternsAreNeitherKeptNorChanged(t *testing.T) {
	b := []byte("she he")
	shared := unsafe.String(&b[0], len(b))
	l := []string{shared[:3], shared[4:], "hers"}
	m := made(t, l[:2]...)
	if !slices.Equal(l, []string{"she", "he", "hers"}) {
		t.Errorf("patterns changed: %q", l)
	}
	l[0] = "us"
	copy(b, "xxxxxx")
	for range 2 {
		if got := m.Hits("ushers"); !slices.Equal(got, []find.Hit{{1, 0}, {2, 1}}) || m.Len() != 2 {
			t.Errorf("Hits = %v", got)
		}
	}
}

func TestAnswersAreNewMemory(t *testing.T) {
	m := made(t, "text")
	s := strings.Repeat("text", 16)
	first, second := m.Hits(s), m.Hits(s)
	first[0] = find.Hit{At: 7, Which: 7}
	if second[0] != (find.Hit{}) || m.Hits(s)[0] != (find.Hit{}) {
		t.Error("two answers of Hits share memory")
	}
	for _, m := range []*find.Many{m, made(t, "none"), made(t), nil, {}} {
		if got, _ := m.Blot(s, '*'); unsafe.StringData(got) == unsafe.StringData(s) {
			t.Errorf("%q lies in the argument", got)
		}
	}
}
