package pct_test

import (
	"fmt"
	"math"
	"math/rand"
	"net/url"
	"regexp"
	"strconv"
	"strings"
	"testing"
	"unsafe"

	"nuncio/api"
	"nuncio/pct"
)

// The bytes that the chapter calls unreserved, written out.
const unreserved = "ABCDEFGHIJKLMNOPQRSTUVWXYZabcdefghijklmnopqrstuvwxyz0123456789-._~"

// writingOf is the chapter's definition of what Write returns.
func writingOf(s string) string {
	var b strings.Builder
	for _, c := range []byte(s) {
		if strings.IndexByte(unreserved, c) >= 0 {
			b.WriteByte(c)
		} else {
			fmt.Fprintf(&b, "%%%02X", c)
		}
	}
	return b.String()
}

var oneOf = regexp.MustCompile(`\A(?:%([0-9A-Fa-f]{2})|[A-Za-z0-9\-._~])`)

// byteAt is the chapter's definition of what One decodes; the size is 0 where it returns false.
func byteAt(s string, at int) (byte, int) {
	if at < 0 || at >= len(s) {
		return 0, 0
	}
	m := oneOf.FindStringSubmatch(s[at:])
	switch {
	case m == nil:
		return 0, 0
	case m[1] == "":
		return s[at], 1
	}
	n, err := strconv.ParseUint(m[1], 16, 8)
	if err != nil {
		panic(err)
	}
	return byte(n), 3
}

// readingOf is the chapter's definition of what Read returns.
func readingOf(s string) (string, api.Errno) {
	var b []byte
	for at := 0; at < len(s); {
		c, size := byteAt(s, at)
		if size == 0 {
			return "", api.ErrForm
		}
		b = append(b, c)
		at += size
	}
	return string(b), api.OK
}

// words calls do with each text of at most most of the letters.
func words(letters []string, most int, do func(string)) {
	var grow func(w string, n int)
	grow = func(w string, n int) {
		do(w)
		if n == most {
			return
		}
		for _, c := range letters {
			grow(w+c, n+1)
		}
	}
	grow("", 0)
}

// random returns texts of all numbers of letters up to most.
func random(seed int64, most int, letters []string) []string {
	r := rand.New(rand.NewSource(seed))
	var l []string
	for n := range most + 1 {
		var b strings.Builder
		for range n {
			b.WriteString(letters[r.Intn(len(letters))])
		}
		l = append(l, b.String())
	}
	return l
}

func everyByte() []string {
	l := make([]string, 256)
	for i := range l {
		l[i] = string([]byte{byte(i)})
	}
	return l
}

// The delimiters of a URL, of RFC 3986.
var delimiters = strings.Split(": / ? # [ ] @ ! $ & ' ( ) * + , ; =", " ")

// texts are of any bytes, of delimiters, and of encodings and what looks like some.
func texts() []string {
	l := random(81, 400, everyByte())
	l = append(l, random(82, 300, append([]string{"a", "Z", "0", " ", "%", "é", "\xff"}, delimiters...))...)
	l = append(l, random(83, 300, strings.Split(`% %2 %2F %2f 0 9 a f g G A F - . _ ~ + 25`, " "))...)
	l = append(l, random(84, 200, strings.Split(`%41 %2F %2f %00 %ff %FF %aB a Z 0 - ~`, " "))...)
	return append(l, strings.Join(everyByte(), ""), strings.Repeat(strings.Join(everyByte(), ""), 2))
}

func writes(t *testing.T, s, want string) {
	t.Helper()
	if got := pct.Write(s); got != want {
		t.Errorf("Write(%.200q) = %.200q, want %.200q", s, got, want)
	}
}

func isOne(t *testing.T, s string, at int, c byte, size int) {
	t.Helper()
	if got, n, ok := pct.One(s, at); got != c || n != size || ok != (size > 0) {
		t.Errorf("One(%.200q, %d) = %d, %d, %t, want %d, %d", s, at, got, n, ok, c, size)
	}
}

func reads(t *testing.T, s, want string) {
	t.Helper()
	if got, e := pct.Read(s); got != want || e != api.OK {
		t.Errorf("Read(%.200q) = %.200q, %d, want %.200q", s, got, e, want)
	}
}

func refuses(t *testing.T, s string) {
	t.Helper()
	if got, e := pct.Read(s); got != "" || e != api.ErrForm {
		t.Errorf("Read(%.200q) = %.200q, %d", s, got, e)
	}
}

// denotes expects one to stand for c wherever it stands.
func denotes(t *testing.T, one string, c byte) {
	t.Helper()
	want := string([]byte{c})
	for _, before := range []string{"", "a", "%", "%2", "%4", "%41", "/", "\xc3", "\x00", one} {
		for _, after := range []string{"", "a", "0", "%", "%2", "%41", "g", "/", "\xa9", "\x00", one} {
			isOne(t, before+one+after, len(before), c, len(one))
		}
	}
	reads(t, one, want)
	reads(t, "a"+one+"b", "a"+want+"b")
	reads(t, one+one, want+want)
	reads(t, "%2F"+one+"%2f", "/"+want+"/")
}

// none expects that One finds nothing where s begins, and that Read refuses whatever holds s.
func none(t *testing.T, s string) {
	t.Helper()
	for _, before := range []string{"", "a", "~", "%41", "%2f-", strings.Repeat("a", 1000)} {
		isOne(t, before+s, len(before), 0, 0)
		refuses(t, before+s)
		isOne(t, before+s+"/", len(before), 0, 0)
		refuses(t, before+s+"%41"+s)
	}
}

// P8.1

func TestFree(t *testing.T) {
	for i := range 256 {
		c := byte(i)
		want := strings.IndexByte(unreserved, c) >= 0
		if got := pct.Free(c); got != want {
			t.Errorf("Free(%q) = %t", c, got)
		}
	}
	for _, c := range []byte("@AZ[`az{/09:") { // the bounds, and the bytes just outside of them
		want := 'A' <= c && c <= 'Z' || 'a' <= c && c <= 'z' || '0' <= c && c <= '9'
		if pct.Free(c) != want {
			t.Errorf("Free(%q)", c)
		}
	}
	for _, c := range []byte("-._~") {
		if !pct.Free(c) {
			t.Errorf("Free(%q)", c)
		}
	}
	for _, c := range []byte(",+^}\x7f\x00 %\x80\xaa\xb5\xc0\xdf\xe9\xff") { // some are letters where bytes are runes
		if pct.Free(c) {
			t.Errorf("Free(%q)", c)
		}
	}
}

func TestWrite(t *testing.T) {
	for _, x := range [][2]string{
		{"", ""},
		{"a", "a"},
		{"a b/", "a%20b%2F"},
		{"az", "az"},
		{"AZ", "AZ"},
		{"09", "09"},
		{"-._~", "-._~"},
		{"`a{", "%60a%7B"},
		{"z{", "z%7B"},
		{"@A[", "%40A%5B"},
		{"Z[", "Z%5B"},
		{"/0:", "%2F0%3A"},
		{"9:", "9%3A"},
		{",-./", "%2C-.%2F"},
		{"^_`", "%5E_%60"},
		{"}~\x7f", "%7D~%7F"},
		{"%", "%25"},
		{"%25", "%2525"},
		{"%2f", "%252f"},
		{"a+b", "a%2Bb"},
		{"a&b=c", "a%26b%3Dc"},
		{"https://h/?q=1#f", "https%3A%2F%2Fh%2F%3Fq%3D1%23f"},
		{"../..", "..%2F.."},
		{"\r\n", "%0D%0A"},
		{"\x00\x01\x0f\x10\x1f", "%00%01%0F%10%1F"},
		{"\"'<>\\", "%22%27%3C%3E%5C"},
		{"é", "%C3%A9"},
		{"€", "%E2%82%AC"},
		{"\U0001f514", "%F0%9F%94%94"},
		{"\xff", "%FF"},
		{"\x80\x9f\xa0\xab", "%80%9F%A0%AB"},
		{"\xc3", "%C3"},
		{"\xe2\x82", "%E2%82"},
		{"\xed\xa0\x80", "%ED%A0%80"},
	} {
		writes(t, x[0], x[1])
		writes(t, "a"+x[0], "a"+x[1])
		writes(t, x[0]+"b", x[1]+"b")
		writes(t, x[0]+" "+x[0], x[1]+"%20"+x[1])
	}
}

func TestWriteOfEveryByte(t *testing.T) {
	for i, c := range everyByte() {
		want := fmt.Sprintf("%%%02X", i)
		if strings.Contains(unreserved, c) {
			want = c
		}
		writes(t, c, want)
		writes(t, c+c, want+want)
		for _, around := range []string{"a", " ", "~", "%", "\xff", "é", "41"} {
			beside := writingOf(around)
			writes(t, around+c+around, beside+want+beside)
		}
	}
}

func TestWriteIsAsDefined(t *testing.T) {
	for _, c := range everyByte() {
		for _, d := range everyByte() {
			writes(t, c+d, writingOf(c+d))
		}
	}
	words([]string{"%", "/", "2", "F", "~", "\xc3", "\xa9", "@"}, 5, func(s string) { writes(t, s, writingOf(s)) })
	for _, s := range texts() {
		writes(t, s, writingOf(s))
	}
}

// P8.2

func TestOneByDigits(t *testing.T) {
	for _, x := range []struct {
		one string
		c   byte
	}{
		{"%00", 0}, {"%01", 1}, {"%09", 9}, {"%0a", 10}, {"%0A", 10}, {"%0f", 15}, {"%0F", 15}, {"%10", 16}, {"%20", ' '}, {"%25", '%'},
		{"%2f", '/'}, {"%2F", '/'}, {"%2b", '+'}, {"%41", 'A'}, {"%61", 'a'}, {"%30", '0'}, {"%2d", '-'}, {"%2E", '.'}, {"%5f", '_'}, {"%7e", '~'}, {"%7E", '~'},
		{"%7f", 127}, {"%80", 128}, {"%90", 144}, {"%99", 153}, {"%9a", 154}, {"%a9", 169}, {"%A9", 169}, {"%aA", 170}, {"%Aa", 170}, {"%bC", 188}, {"%De", 222}, {"%eF", 239}, {"%f0", 240}, {"%ff", 255}, {"%fF", 255}, {"%Ff", 255}, {"%FF", 255},
	} {
		denotes(t, x.one, x.c)
	}
}

func TestOneByEveryNumber(t *testing.T) {
	for i := range 256 {
		high, low := fmt.Sprintf("%x", i>>4), fmt.Sprintf("%x", i&15)
		for _, one := range []string{"%" + high + low, "%" + strings.ToUpper(high) + low, "%" + high + strings.ToUpper(low), "%" + strings.ToUpper(high+low)} {
			denotes(t, one, byte(i))
		}
	}
}

func TestOneWithEveryByteForADigit(t *testing.T) {
	const digits = "0123456789ABCDEFabcdef"
	for _, c := range everyByte() {
		if strings.Contains(digits, c) {
			continue
		}
		for _, d := range []string{"0", "9", "a", "f", "A", "F", "2"} {
			none(t, "%"+c+d)
			none(t, "%"+d+c)
		}
		none(t, "%"+c)
		none(t, "%"+c+c)
	}
	for _, c := range strings.Split(digits, "") {
		isOne(t, "%"+c, 0, 0, 0) // cut off
		isOne(t, "a%"+c, 1, 0, 0)
		refuses(t, "%"+c)
		refuses(t, "a%"+c)
	}
}

func TestOneIsNoLooserThanTwoDigits(t *testing.T) {
	for _, s := range []string{"%", "%%", "%%20", "% 20", "%2 0", "%+2", "%-2", "%2+", "%0x", "%x41", "%u0041", "%2g", "%g2", "%2G", "%G2", "%2:", "%2/", "%2@", "%2`", "%:2", "%/2", "%@2", "%`2", "%é", "%2é", "%\xc3\xa9", "%2\xff", "%٢٣", "%2\x00", "%\x002"} {
		none(t, s)
	}
	isOne(t, "%25%", 0, '%', 3)
	isOne(t, "%2541", 0, '%', 3) // what is decoded is not read again
	reads(t, "%2541", "%41")
	reads(t, "%25%34%31", "%41")
	reads(t, "%411", "A1")
}

func TestOneByAByteItself(t *testing.T) {
	for _, c := range strings.Split(unreserved, "") {
		denotes(t, c, c[0])
	}
	for _, c := range everyByte() {
		if !strings.Contains(unreserved, c) && c != "%" {
			none(t, c)
			none(t, c+"41")
			none(t, c+c)
		}
	}
	for _, s := range []string{"é", "€", "\U0001f514", "\xc3", "\xff", "\x80"} {
		none(t, s)
	}
}

func TestOneAtEveryOffset(t *testing.T) {
	s := "a%41~%2f/%%30é%f%C3\xff-%4"
	type one struct {
		c    byte
		size int
	}
	begins := map[int]one{
		0: {'a', 1}, 1: {'A', 3}, 2: {'4', 1}, 3: {'1', 1}, 4: {'~', 1}, 5: {'/', 3}, 6: {'2', 1}, 7: {'f', 1},
		10: {'0', 3}, 11: {'3', 1}, 12: {'0', 1}, 16: {'f', 1}, 17: {0xc3, 3}, 18: {'C', 1}, 19: {'3', 1}, 21: {'-', 1}, 23: {'4', 1},
	}
	if len(s) != 24 {
		t.Fatal(len(s))
	}
	for at := -100; at <= len(s)+100; at++ {
		isOne(t, s, at, begins[at].c, begins[at].size)
	}
	for _, x := range []string{"", "a", "%", "%4", "%41", "é", "\xff", "/", s} {
		for _, at := range []int{math.MinInt, math.MinInt + 1, math.MinInt + 2, math.MinInt32, -4, -3, -2, -1, len(x), len(x) + 1, len(x) + 2, len(x) + 3, math.MaxInt32, math.MaxInt - 3, math.MaxInt - 2, math.MaxInt - 1, math.MaxInt} {
			isOne(t, x, at, 0, 0)
		}
	}
}

func TestOneAtEveryCut(t *testing.T) {
	for _, one := range []string{"%41", "%2f", "%FF"} {
		long := "ab" + one // whose memory lies behind each part of it
		for to := range one {
			isOne(t, one[:to], 0, 0, 0)
			isOne(t, long[:2+to], 2, 0, 0)
			if to > 0 {
				refuses(t, one[:to])
				refuses(t, long[:2+to])
				refuses(t, one+one[:to])
			}
		}
		isOne(t, long[:5], 2, mustByte(t, one), 3)
	}
}

func mustByte(t *testing.T, one string) byte {
	t.Helper()
	s, err := url.PathUnescape(one)
	if err != nil || len(s) != 1 {
		t.Fatal(one, s, err)
	}
	return s[0]
}

func TestOneIsAsDefined(t *testing.T) {
	holds := func(s string) {
		for at := -1; at <= len(s)+1; at++ {
			want, size := byteAt(s, at)
			if c, n, ok := pct.One(s, at); c != want || n != size || ok != (size > 0) {
				t.Fatalf("One(%q, %d) = %d, %d, %t, want %d, %d", s, at, c, n, ok, want, size)
			}
		}
	}
	for _, c := range everyByte() {
		for _, d := range everyByte() {
			holds(c + d)
			holds("%" + c + d)
			holds("a%" + c + d + "0")
		}
	}
	words([]string{"%", "2", "f", "G", "~", "/", "\xff"}, 6, holds)
	for _, s := range texts() {
		holds(s)
	}
}

// P8.3

func TestRead(t *testing.T) {
	for _, x := range [][2]string{
		{"", ""},
		{"a", "a"},
		{"%2f", "/"},
		{"%2F", "/"},
		{"a%20b%2F", "a b/"},
		{"-._~", "-._~"},
		{"%2D%2e%5F%7e", "-._~"}, // encodings of bytes that need none
		{"%61%7a%41%5a%30%39", "azAZ09"},
		{"%25", "%"},
		{"%252F", "%2F"},
		{"%2525", "%25"},
		{"%2b", "+"},
		{"%C3%A9", "é"},
		{"%c3%a9", "é"},
		{"%C3", "\xc3"},
		{"%ff%00", "\xff\x00"},
		{"%0d%0A", "\r\n"},
		{"%F0%9F%94%94", "\U0001f514"},
	} {
		reads(t, x[0], x[1])
		reads(t, x[0]+x[0], x[1]+x[1])
		reads(t, "a"+x[0]+"0", "a"+x[1]+"0")
	}
}

func TestReadRefuses(t *testing.T) {
	wrong := append([]string{"+", " ", "%", "%2", "%f", "%2g", "%g2", "%%", "% 2", "\"", "<", ">", "\\", "^", "`", "{", "|", "}", "\x00", "\t", "\r\n", "\x7f", "\x80", "\xff", "é"}, delimiters...)
	for _, s := range wrong {
		none(t, s)
		for _, after := range []string{"-", "%2F", "+", " ", "%"} {
			refuses(t, s+after)
			refuses(t, "a%41"+s+after)
		}
	}
	for _, s := range []string{"a+b", "a b", "a%", "a%2", "a%20%", "a%20%2", "%41%4", "%4%41", "a/b", "a%2Fb/c", "https://h"} {
		refuses(t, s)
	}
}

func TestReadEveryByte(t *testing.T) {
	for _, c := range everyByte() {
		for _, x := range [][2]string{{c, c}, {"a" + c + "z", "a" + c + "z"}, {"%2f" + c + "%2F", "/" + c + "/"}, {"~" + c, "~" + c}} {
			if strings.Contains(unreserved, c) {
				reads(t, x[0], x[1])
			} else {
				refuses(t, x[0])
			}
		}
	}
}

func TestReadIsAsDefined(t *testing.T) {
	holds := func(s string) {
		want, e := readingOf(s)
		if got, is := pct.Read(s); got != want || is != e {
			t.Fatalf("Read(%q) = %q, %d, want %q, %d", s, got, is, want, e)
		}
	}
	for _, c := range everyByte() {
		for _, d := range everyByte() {
			holds(c + d)
			holds("%" + c + d)
			holds("%4" + c + d)
		}
	}
	words([]string{"%", "2", "f", "A", "G", "~", "+"}, 6, holds)
	words([]string{"%41", "%2f", "%25", "%f", "-", "%"}, 6, holds)
	for _, s := range texts() {
		holds(s)
		holds(writingOf(s))
		holds(strings.ToLower(writingOf(s)))
		holds(strings.ReplaceAll(writingOf(s), "2", ""))
	}
}

// P8.4

func TestReadUndoesWrite(t *testing.T) {
	undoes := func(s string) {
		if got, e := pct.Read(pct.Write(s)); got != s || e != api.OK {
			t.Fatalf("Read(%q), %q encoded, is %q, %d", pct.Write(s), s, got, e)
		}
	}
	for _, c := range everyByte() {
		for _, d := range everyByte() {
			undoes(c + d)
		}
	}
	words([]string{"%", "2", "F", "/", "~", " ", "\xff"}, 5, undoes)
	for _, s := range texts() {
		undoes(s)
		undoes(pct.Write(s))
		undoes(pct.Write(pct.Write(s)))
	}
}

func TestWhatWriteContains(t *testing.T) {
	form := regexp.MustCompile(`\A(?:[A-Za-z0-9\-._~]|%[0-9A-F]{2})*\z`)
	proper := func(s string) {
		written := pct.Write(s)
		if !form.MatchString(written) {
			t.Fatalf("%q, %q encoded, is not of encodings alone", written, s)
		}
		if strings.ContainsAny(written, strings.Join(delimiters, "")) {
			t.Fatalf("%q, %q encoded, contains a delimiter", written, s)
		}
	}
	for _, c := range everyByte() {
		for _, d := range everyByte() {
			proper(c + d)
		}
	}
	words(append([]string{"%", "4", "a"}, delimiters...), 3, proper)
	for _, s := range texts() {
		proper(s)
	}
}

// A payload's URLs are read by readers other than this one.

func TestAnotherReaderReadsWhatIsWritten(t *testing.T) {
	for _, s := range texts() {
		for _, read := range []func(string) (string, error){url.PathUnescape, url.QueryUnescape} {
			if got, err := read(pct.Write(s)); err != nil || got != s {
				t.Fatalf("%q, %q encoded, is read as %q: %v", pct.Write(s), s, got, err)
			}
		}
	}
}

func TestAnotherReaderReadsWhatIsRead(t *testing.T) {
	for _, s := range texts() {
		want, e := pct.Read(s)
		if e != api.OK {
			continue
		}
		if got, err := url.PathUnescape(s); err != nil || got != want {
			t.Fatalf("%q is read as %q, by another reader as %q: %v", s, want, got, err)
		}
	}
}

func TestWhatAnotherWriterWroteIsRead(t *testing.T) {
	for _, s := range texts() {
		if strings.ContainsAny(s, " ") { // which the other one writes as +
			continue
		}
		reads(t, url.QueryEscape(s), s)
	}
}

// The bound of the promises is far beyond these; the time that each takes grows with the length alone.

func TestLongOnes(t *testing.T) {
	for _, s := range []string{strings.Repeat("a", 1<<21), strings.Repeat("/", 1<<20), strings.Repeat("%", 1<<20), strings.Repeat(strings.Join(everyByte(), ""), 1<<12), strings.Repeat("a/", 1<<19)} {
		written := pct.Write(s)
		if written != writingOf(s) {
			t.Errorf("Write(%.20q..)", s)
		}
		reads(t, written, s)
		refuses(t, written+"/")
		refuses(t, written+"%")
		refuses(t, written+"%4")
	}
}

// General rule 4

func TestAnswersAreNewMemory(t *testing.T) {
	for _, s := range []string{"a", "plain", strings.Repeat("unreserved", 100)} {
		if got := pct.Write(s); got != s || unsafe.StringData(got) == unsafe.StringData(s) {
			t.Errorf("Write(%q) = %q lies in the argument", s, got)
		}
		if got, _ := pct.Read(s); got != s || unsafe.StringData(got) == unsafe.StringData(s) {
			t.Errorf("Read(%q) = %q lies in the argument", s, got)
		}
	}
}
