package entity_test

import (
	"fmt"
	"html"
	"math"
	"math/rand"
	"regexp"
	"strconv"
	"strings"
	"testing"
	"unicode/utf8"
	"unsafe"

	"nuncio/api"
	"nuncio/entity"
)

var (
	form   = regexp.MustCompile(`\A&(?:(amp|lt|gt|quot)|#([0-9]{1,7})|#x([0-9A-Fa-f]{1,6}));`)
	byName = map[string]string{"amp": "&", "lt": "<", "gt": ">", "quot": `"`}
)

// referenceAt is the chapter's definition of a reference; it returns what it denotes and its length, 0 if none begins at at.
func referenceAt(s string, at int) (string, int) {
	if at < 0 || at >= len(s) {
		return "", 0
	}
	m := form.FindStringSubmatch(s[at:])
	if m == nil {
		return "", 0
	}
	if m[1] != "" {
		return byName[m[1]], len(m[0])
	}
	digits, base := m[2], 10
	if m[3] != "" {
		digits, base = m[3], 16
	}
	n, err := strconv.ParseInt(digits, base, 64)
	if err != nil {
		panic(err)
	}
	if n == 0 || n > utf8.MaxRune || n >= 0xd800 && n <= 0xdfff {
		return "", 0
	}
	return string(utf8.AppendRune(nil, rune(n))), len(m[0])
}

// decodingOf is the chapter's definition of what Decode reads.
func decodingOf(s string) (string, bool) {
	var b strings.Builder
	for at := 0; at < len(s); {
		denoted, size := referenceAt(s, at)
		if size == 0 {
			if strings.IndexByte(`&<>"'`, s[at]) >= 0 {
				return "", false
			}
			denoted, size = s[at:at+1], 1
		}
		b.WriteString(denoted)
		at += size
	}
	return b.String(), true
}

var (
	forText = strings.NewReplacer("&", "&amp;", "<", "&lt;", ">", "&gt;", `"`, "&quot;", "'", "&#39;")
	forAttr = strings.NewReplacer("&", "&amp;", "<", "&lt;", ">", "&gt;", `"`, "&quot;", "'", "&#39;", "\t", "&#9;", "\n", "&#10;")
)

// words calls do with each text of at most most of the letters.
func words(letters []string, most int, do func(string)) {
	var grow func(w string, n int)
	grow = func(w string, n int) {
		do(w)
		if n == most {
			return
		}
		for _, c := range letters {
			grow(w+c, n+1)
		}
	}
	grow("", 0)
}

// random returns texts of all numbers of letters up to most.
func random(seed int64, most int, letters []string) []string {
	r := rand.New(rand.NewSource(seed))
	var l []string
	for n := range most + 1 {
		var b strings.Builder
		for range n {
			b.WriteString(letters[r.Intn(len(letters))])
		}
		l = append(l, b.String())
	}
	return l
}

func everyByte() []string {
	l := make([]string, 256)
	for i := range l {
		l[i] = string([]byte{byte(i)})
	}
	return l
}

// texts are of any bytes, of bytes that are escaped and few others, of references and pieces of them.
func texts() []string {
	l := random(61, 400, everyByte())
	l = append(l, random(62, 300, strings.Split("&<>\"'\t\n\ra;#", ""))...)
	l = append(l, random(63, 300, strings.Split("&amp; &lt; &gt; &quot; &#39; &#9; &#10; &#xe9; &#x1F4a9; a é \xff", " "))...)
	l = append(l, random(64, 200, strings.Split("& # x ; 0 1 9 d8 D fff a amp lt gt quot", " "))...)
	return append(l, strings.Join(everyByte(), ""), strings.Repeat(strings.Join(everyByte(), ""), 2))
}

func isOne(t *testing.T, s string, at int, denoted string, size int) {
	t.Helper()
	if got, n, ok := entity.One(s, at); got != denoted || n != size || ok != (size > 0) {
		t.Errorf("One(%.200q, %d) = %q, %d, %t, want %q, %d", s, at, got, n, ok, denoted, size)
	}
}

func decodes(t *testing.T, s, want string) {
	t.Helper()
	if got, e := entity.Decode(s); got != want || e != api.OK {
		t.Errorf("Decode(%.200q) = %.200q, %d, want %.200q", s, got, e, want)
	}
}

func refuses(t *testing.T, s string) {
	t.Helper()
	if got, e := entity.Decode(s); got != "" || e != api.ErrForm {
		t.Errorf("Decode(%.200q) = %.200q, %d", s, got, e)
	}
}

// denotes expects ref to be a reference wherever it stands, and to be decoded as want.
func denotes(t *testing.T, ref, want string) {
	t.Helper()
	for _, before := range []string{"", "a", "&", "&#", "&#x", "\xc3", "&lt;", ref} {
		for _, after := range []string{"", "a", ";", "&", "0;", "\xa9", "&lt;", ref} {
			isOne(t, before+ref+after, len(before), want, len(ref))
		}
	}
	decodes(t, ref, want)
	decodes(t, "a"+ref+"b", "a"+want+"b")
	decodes(t, ref+ref, want+want)
	decodes(t, "&lt;"+ref+"&#62;;", "<"+want+">;")
}

// none expects that no reference begins where s does.
func none(t *testing.T, s string) {
	t.Helper()
	isOne(t, s, 0, "", 0)
	isOne(t, "a&lt;"+s, 5, "", 0)
	refuses(t, s)
	refuses(t, "a&lt;"+s)
	refuses(t, s+"&lt;b")
}

// P6.1

func TestTextAndAttr(t *testing.T) {
	for _, x := range []struct{ s, text, attr string }{
		{"", "", ""},
		{"a", "a", "a"},
		{"a<b", "a&lt;b", "a&lt;b"},
		{"it's\n", "it&#39;s\n", "it&#39;s&#10;"},
		{"&", "&amp;", "&amp;"},
		{"<", "&lt;", "&lt;"},
		{">", "&gt;", "&gt;"},
		{`"`, "&quot;", "&quot;"},
		{"'", "&#39;", "&#39;"},
		{"\t", "\t", "&#9;"},
		{"\n", "\n", "&#10;"},
		{"\r", "\r", "\r"},
		{"\r\n", "\r\n", "\r&#10;"},
		{" ", " ", " "},
		{`&<>"'`, "&amp;&lt;&gt;&quot;&#39;", "&amp;&lt;&gt;&quot;&#39;"},
		{"a\tb\nc", "a\tb\nc", "a&#9;b&#10;c"},
		{"\t\n\t\n", "\t\n\t\n", "&#9;&#10;&#9;&#10;"},
		// references are text like any other
		{"&amp;", "&amp;amp;", "&amp;amp;"},
		{"&#39;", "&amp;#39;", "&amp;#39;"},
		{"&amp", "&amp;amp", "&amp;amp"},
		{";#x", ";#x", ";#x"},
		// bytes beyond ASCII, of runes and bad ones
		{"é<\U0001f4a9>", "é&lt;\U0001f4a9&gt;", "é&lt;\U0001f4a9&gt;"},
		{"\xff<\xc3'\xa9", "\xff&lt;\xc3&#39;\xa9", "\xff&lt;\xc3&#39;\xa9"},
		{"\xc0\xbc\u00a0\u2028", "\xc0\xbc\u00a0\u2028", "\xc0\xbc\u00a0\u2028"},
		{"\x00\x01\v\f\x7f`=/", "\x00\x01\v\f\x7f`=/", "\x00\x01\v\f\x7f`=/"},
		{`<a href="x" title='y'>&nbsp;</a>`, "&lt;a href=&quot;x&quot; title=&#39;y&#39;&gt;&amp;nbsp;&lt;/a&gt;", "&lt;a href=&quot;x&quot; title=&#39;y&#39;&gt;&amp;nbsp;&lt;/a&gt;"},
	} {
		if got := entity.Text(x.s); got != x.text {
			t.Errorf("Text(%q) = %q, want %q", x.s, got, x.text)
		}
		if got := entity.Attr(x.s); got != x.attr {
			t.Errorf("Attr(%q) = %q, want %q", x.s, got, x.attr)
		}
	}
}

func escapesAsDefined(t *testing.T, s string) {
	t.Helper()
	if got, want := entity.Text(s), forText.Replace(s); got != want {
		t.Errorf("Text(%.200q) = %.200q, want %.200q", s, got, want)
	}
	if got, want := entity.Attr(s), forAttr.Replace(s); got != want {
		t.Errorf("Attr(%.200q) = %.200q, want %.200q", s, got, want)
	}
}

func TestTextAndAttrOfEveryByte(t *testing.T) {
	for i, c := range everyByte() {
		text, attr := c, c
		switch i {
		case '&':
			text, attr = "&amp;", "&amp;"
		case '<':
			text, attr = "&lt;", "&lt;"
		case '>':
			text, attr = "&gt;", "&gt;"
		case '"':
			text, attr = "&quot;", "&quot;"
		case '\'':
			text, attr = "&#39;", "&#39;"
		case 9:
			attr = "&#9;"
		case 10:
			attr = "&#10;"
		}
		for _, around := range []string{"", "a", "\xc3", ";"} {
			if got, want := entity.Text(around+c+around), around+text+around; got != want {
				t.Errorf("Text(%q) = %q, want %q", around+c+around, got, want)
			}
			if got, want := entity.Attr(around+c+around), around+attr+around; got != want {
				t.Errorf("Attr(%q) = %q, want %q", around+c+around, got, want)
			}
		}
	}
}

func TestTextAndAttrAreAsDefined(t *testing.T) {
	for _, c := range everyByte() {
		for _, d := range everyByte() {
			escapesAsDefined(t, c+d)
		}
	}
	words(strings.Split("&<>\"'\t\n;a", ""), 4, func(s string) { escapesAsDefined(t, s) })
	for _, s := range texts() {
		escapesAsDefined(t, s)
	}
}

// P6.2

func TestOneByName(t *testing.T) {
	for _, x := range [][2]string{{"amp", "&"}, {"lt", "<"}, {"gt", ">"}, {"quot", `"`}} {
		name, want := x[0], x[1]
		denotes(t, "&"+name+";", want)
		for i := range len(name) {
			none(t, "&"+name[:i]+strings.ToUpper(name[i:i+1])+name[i+1:]+";")
			none(t, "&"+name[:i]+";")
			none(t, "&"+name[:i])
			none(t, "&"+name[i+1:]+";")
		}
		for _, s := range []string{"&" + name, "&" + name + " ;", "&" + name + "&", "&" + name + ":", "&" + name + "s;", "& " + name + ";", "&" + strings.ToUpper(name) + ";", "&&" + name, "&#" + name + ";", "&#x" + name + ";"} {
			none(t, s)
		}
		isOne(t, name+";", 0, "", 0)
		decodes(t, name+";", name+";")
	}
	for _, s := range []string{"&apos;", "&nbsp;", "&copy;", "&eacute;", "&ampamp;", "&ltgt;", "&;", "&", "& ", "&a", "&a;", "&l;", "&1;", "&39;", "&x27;", "&\xff;", "&é;", "&\x00;"} {
		none(t, s)
	}
}

func TestOneByDecimalNumber(t *testing.T) {
	for _, x := range []struct{ ref, denoted string }{
		{"&#1;", "\x01"},
		{"&#9;", "\t"},
		{"&#10;", "\n"},
		{"&#39;", "'"},
		{"&#38;", "&"},
		{"&#60;", "<"},
		{"&#97;", "a"},
		{"&#127;", "\x7f"},
		{"&#128;", "\xc2\x80"}, // no reader's table of other numbers' meanings
		{"&#150;", "\xc2\x96"},
		{"&#159;", "\xc2\x9f"},
		{"&#233;", "\xc3\xa9"},
		{"&#255;", "\xc3\xbf"},
		{"&#256;", "\xc4\x80"},
		{"&#2047;", "\xdf\xbf"},
		{"&#2048;", "\xe0\xa0\x80"},
		{"&#55295;", "\xed\x9f\xbf"},
		{"&#57344;", "\xee\x80\x80"},
		{"&#65279;", "\xef\xbb\xbf"},
		{"&#65533;", "\xef\xbf\xbd"},
		{"&#65535;", "\xef\xbf\xbf"},
		{"&#65536;", "\xf0\x90\x80\x80"},
		{"&#128169;", "\xf0\x9f\x92\xa9"},
		{"&#1000000;", "\xf3\xb4\x89\x80"},
		{"&#1114111;", "\xf4\x8f\xbf\xbf"},
		// leading zeros
		{"&#01;", "\x01"},
		{"&#039;", "'"},
		{"&#0000001;", "\x01"},
		{"&#0000039;", "'"},
		{"&#0000233;", "\xc3\xa9"},
		{"&#0999999;", "\xf3\xb4\x88\xbf"},
	} {
		denotes(t, x.ref, x.denoted)
	}
	for _, s := range []string{
		"&#0;", "&#00;", "&#0000000;",
		"&#55296;", "&#55297;", "&#56320;", "&#57342;", "&#57343;",
		"&#1114112;", "&#1114113;", "&#2000000;", "&#9999999;",
		// 8 digits and more
		"&#00000001;", "&#00000039;", "&#01114111;", "&#11141110;", "&#4294967297;", "&#18446744073709551617;", "&#99999999;", "&#" + strings.Repeat("0", 100) + "39;",
		// no digits, digits of another base, signs and such
		"&#;", "&#", "&# ;", "&#a;", "&#f;", "&#3a;", "&#a3;", "&#9f;", "&#:;", "&#/;", "&#3:;", "&#3/;", "&#-1;", "&#+1;", "&#1.;", "&#1_0;", "&#1e2;", "&# 39;", "&#39 ;", "&#3 9;", "&##39;", "&#\xff;", "&#3\xff;", "&#\x00;", "&#٣;", "&#٣٩;", "&# 39;",
		// cut off
		"&#3", "&#39", "&#39&", "&#39:", "&#39\x00;", "&#1114111", "&#1234567", "&#0000039",
	} {
		none(t, s)
	}
}

func TestOneByHexadecimalNumber(t *testing.T) {
	for _, x := range []struct{ ref, denoted string }{
		{"&#x1;", "\x01"},
		{"&#xa;", "\n"},
		{"&#xA;", "\n"},
		{"&#xf;", "\x0f"},
		{"&#xF;", "\x0f"},
		{"&#x27;", "'"},
		{"&#x3c;", "<"},
		{"&#x3C;", "<"},
		{"&#x7f;", "\x7f"},
		{"&#x80;", "\xc2\x80"},
		{"&#x99;", "\xc2\x99"},
		{"&#xe9;", "\xc3\xa9"},
		{"&#xE9;", "\xc3\xa9"},
		{"&#x7ff;", "\xdf\xbf"},
		{"&#x800;", "\xe0\xa0\x80"},
		{"&#xabc;", "\xe0\xaa\xbc"},
		{"&#xDEF;", "\xe0\xb7\xaf"},
		{"&#xd7ff;", "\xed\x9f\xbf"},
		{"&#xD7fF;", "\xed\x9f\xbf"},
		{"&#xe000;", "\xee\x80\x80"},
		{"&#xfffd;", "\xef\xbf\xbd"},
		{"&#xffff;", "\xef\xbf\xbf"},
		{"&#x10000;", "\xf0\x90\x80\x80"},
		{"&#x1F4a9;", "\xf0\x9f\x92\xa9"},
		{"&#x10ffff;", "\xf4\x8f\xbf\xbf"},
		{"&#x10FFFF;", "\xf4\x8f\xbf\xbf"},
		// leading zeros
		{"&#x01;", "\x01"},
		{"&#x000001;", "\x01"},
		{"&#x000027;", "'"},
		{"&#x0000e9;", "\xc3\xa9"},
		{"&#x00D7FF;", "\xed\x9f\xbf"},
	} {
		denotes(t, x.ref, x.denoted)
	}
	for _, s := range []string{
		"&#x0;", "&#x00;", "&#x000000;",
		"&#xd800;", "&#xD801;", "&#xdbff;", "&#xDC00;", "&#xdffe;", "&#xDFFF;", "&#x00d800;",
		"&#x110000;", "&#x110001;", "&#x200000;", "&#xffffff;", "&#xFFFFFF;",
		// 7 digits and more
		"&#x0000001;", "&#x0000027;", "&#x010ffff;", "&#x1000000;", "&#x100000027;", "&#x10000000000000027;", "&#xfffffff;", "&#x" + strings.Repeat("0", 100) + "27;",
		// an X in upper case
		"&#X27;", "&#Xe9;", "&#XE9;", "&#X1;",
		// no digits, what are none of the base, signs and such
		"&#x;", "&#x", "&#x ;", "&#xg;", "&#xG;", "&#x2g;", "&#xg2;", "&#x@;", "&#x`;", "&#x:;", "&#x/;", "&#x2@;", "&#x2`;", "&#xx27;", "&#x0x27;", "&#0x27;", "&#x-1;", "&#x+1;", "&#x 27;", "&#x27 ;", "&#x2 7;", "&#x2_7;", "&x27;", "&#x\xff;", "&#x2\xff;", "&#xé;", "&#x\x00;",
		// cut off
		"&#x2", "&#x27", "&#x27&", "&#x27:", "&#x27\x00;", "&#x10ffff", "&#x123456", "&#x000027",
	} {
		none(t, s)
	}
}

func TestOneAtEveryOffset(t *testing.T) {
	s := "a&lt;&#39;&amp;&&#xe9;;\xff&quot;&gt"
	begins := map[int]struct {
		denoted string
		size    int
	}{1: {"<", 4}, 5: {"'", 5}, 10: {"&", 5}, 16: {"\xc3\xa9", 6}, 24: {`"`, 6}}
	for at := -100; at <= len(s)+100; at++ {
		isOne(t, s, at, begins[at].denoted, begins[at].size)
	}
	for _, x := range []string{"", "&", "&lt;", "&#39;", "&#x27;", s} {
		for _, at := range []int{math.MinInt, math.MinInt + 1, math.MinInt32, -1, len(x), len(x) + 1, math.MaxInt32, math.MaxInt - 2, math.MaxInt - 1, math.MaxInt} {
			isOne(t, x, at, "", 0)
		}
	}
}

func TestOneAtEveryCut(t *testing.T) {
	for _, ref := range []string{"&amp;", "&lt;", "&gt;", "&quot;", "&#1;", "&#0000039;", "&#1114111;", "&#x1;", "&#x000027;", "&#x10FFFF;"} {
		for to := range len(ref) {
			isOne(t, ref[:to], 0, "", 0)
			isOne(t, "ab"+ref[:to], 2, "", 0)
			isOne(t, ref[:to]+" ", 0, "", 0)
			isOne(t, ref[:to]+"&"+ref, 0, "", 0)
		}
		// memory behind the text is not read
		long := "ab" + ref
		for to := range len(long) {
			isOne(t, long[:to], 2, "", 0)
		}
	}
}

func TestOneByEveryNumber(t *testing.T) {
	holds := func(s string) {
		denoted, size := referenceAt(s, 0)
		if got, n, ok := entity.One(s, 0); got != denoted || n != size || ok != (size > 0) {
			t.Fatalf("One(%q, 0) = %q, %d, %t, want %q, %d", s, got, n, ok, denoted, size)
		}
	}
	for n := range 1200000 {
		if n > 70000 && n < 1100000 && n%97 != 0 {
			continue
		}
		holds("&#" + strconv.Itoa(n) + ";")
		holds(fmt.Sprintf("&#x%x;", n))
	}
	for n := 1200000; n < 1<<25; n += 9973 {
		holds("&#" + strconv.Itoa(n) + ";")
		holds(fmt.Sprintf("&#x%X;", n))
	}
}

func TestOneWithEveryByte(t *testing.T) {
	for _, c := range everyByte() {
		for _, d := range everyByte() {
			for _, s := range []string{c + d, "&" + c + d, "&#" + c + d, "&#" + c + d + ";", "&#x" + c + d + ";", "&" + c + d + "39;", "&#3" + c + d, "&" + c + d + ";", c + "lt" + d} {
				denoted, size := referenceAt(s, 0)
				isOne(t, s, 0, denoted, size)
			}
		}
	}
}

func TestOneIsAsDefined(t *testing.T) {
	holds := func(s string) {
		for at := -1; at <= len(s); at++ {
			denoted, size := referenceAt(s, at)
			if got, n, ok := entity.One(s, at); got != denoted || n != size || ok != (size > 0) {
				t.Fatalf("One(%q, %d) = %q, %d, %t, want %q, %d", s, at, got, n, ok, denoted, size)
			}
		}
	}
	words(strings.Split("& # x X ; 0 3 f", " "), 6, holds)
	words([]string{"&", "#", "x", ";", "00", "d7", "FF", "9"}, 6, holds)
	words([]string{"&", "amp", "lt", "gt", "quot", ";", "a", "A"}, 4, holds)
	for _, s := range texts() {
		holds(s)
	}
}

// P6.3

func TestDecode(t *testing.T) {
	for _, x := range []struct{ s, want string }{
		{"", ""},
		{"a", "a"},
		{"&#xe9;", "\xc3\xa9"},
		{"a&lt;b", "a<b"},
		{"&amp;&lt;&gt;&quot;&#39;", `&<>"'`},
		{"&#9;&#10;&#13;", "\t\n\r"},
		// what a reference denotes is not read again
		{"&amp;lt;", "&lt;"},
		{"&#38;lt;", "&lt;"},
		{"&amp;amp;amp;", "&amp;amp;"},
		{"&#x26;#39;", "&#39;"},
		{"&#38;&#35;", "&#"},
		// bytes next to references
		{"lt;&lt;lt;", "lt;<lt;"},
		{"&lt;;", "<;"},
		{"#&lt;#", "#<#"},
		{"0&#48;0", "000"},
		{"\xff&lt;\xc3&gt;\xa9", "\xff<\xc3>\xa9"},
		{"&#xc3;&#xa9;", "\xc3\x83\xc2\xa9"},
		{"é&#233;", "éé"},
		{"\x80\xbf\xfe\xff", "\x80\xbf\xfe\xff"},
		{"\xed\xa0\x80\xc0\xa6", "\xed\xa0\x80\xc0\xa6"},
		{"\x00\t\n\r\x7f #;x", "\x00\t\n\r\x7f #;x"},
	} {
		decodes(t, x.s, x.want)
	}
}

func TestDecodeRefuses(t *testing.T) {
	for _, c := range []string{"&", "<", ">", `"`, "'"} {
		for _, before := range []string{"", "a", "a;", "&lt;", "&amp;", "\xff", "#"} {
			for _, after := range []string{"", "b", ";", "&lt;", "&#39;", "\xff", " "} {
				refuses(t, before+c+after)
			}
		}
		refuses(t, c+c)
		refuses(t, strings.Repeat("a", 1000)+c)
		refuses(t, c+strings.Repeat("a", 1000))
	}
	for _, s := range []string{"a&b", "&amp", "&amp&lt;", "&lt;&", "&&lt;", "&lt;<", "<&lt;", "&#39;'", "&<", "&#<;", "&#3<9;", "&#0;", "&#0;&lt;", "a&#55296;b", "&#x110000;", "&#X41;", "&AMP;", "&apos;", "&nbsp;", "<b>", "it's", `say "a"`, "&#38", "&&#38;", "&#&#38;"} {
		refuses(t, s)
	}
}

func TestDecodeEveryByte(t *testing.T) {
	for i, c := range everyByte() {
		for _, x := range [][2]string{{c, c}, {"a" + c + "b", "a" + c + "b"}, {"&lt;" + c + "&gt;", "<" + c + ">"}, {"&#10;" + c, "\n" + c}, {c + "&#x21;", c + "!"}} {
			switch i {
			case '&', '<', '>', '"', '\'':
				refuses(t, x[0])
			default:
				decodes(t, x[0], x[1])
			}
		}
	}
}

func TestDecodeIsAsDefined(t *testing.T) {
	holds := func(s string) {
		want, ok := decodingOf(s)
		e := api.OK
		if !ok {
			e = api.ErrForm
		}
		if got, is := entity.Decode(s); got != want || is != e {
			t.Fatalf("Decode(%q) = %q, %d, want %q, %d", s, got, is, want, e)
		}
	}
	words(strings.Split("& # x ; 3 f < a", " "), 6, holds)
	words([]string{"&lt;", "&#39;", "&#x", "&", "1", ";", "\"", "\xff"}, 5, holds)
	for _, c := range everyByte() {
		for _, d := range everyByte() {
			holds(c + d)
			holds("&" + c + d + ";")
		}
	}
	for _, s := range texts() {
		holds(s)
		holds(forAttr.Replace(s))
		holds(strings.ReplaceAll(forText.Replace(s), ";", ""))
	}
}

// P6.4

func TestDecodeUndoesTextAndAttr(t *testing.T) {
	undoes := func(s string) {
		for _, escaped := range []string{entity.Text(s), entity.Attr(s)} {
			if got, e := entity.Decode(escaped); got != s || e != api.OK {
				t.Fatalf("Decode(%q), %q escaped, is %q, %d", escaped, s, got, e)
			}
		}
	}
	words(strings.Split("& < > \" ' \t \n a ; #39 lt", " "), 4, undoes)
	for _, c := range everyByte() {
		for _, d := range everyByte() {
			undoes(c + d)
		}
	}
	for _, s := range texts() {
		undoes(s)
		undoes(entity.Text(s))
		undoes(entity.Attr(entity.Text(s)))
	}
}

func TestWhatTextAndAttrContain(t *testing.T) {
	proper := func(s string) {
		for escaped, no := range map[string]string{entity.Text(s): `<>"'`, entity.Attr(s) + " ": "<>\"'\t\n"} {
			if i := strings.IndexAny(escaped, no); i >= 0 {
				t.Fatalf("%q, %q escaped, contains %q", escaped, s, escaped[i])
			}
			for at := range len(escaped) {
				if _, size := referenceAt(escaped, at); escaped[at] == '&' && size == 0 {
					t.Fatalf("%q, %q escaped, has a & that begins no reference", escaped, s)
				}
			}
		}
	}
	words(strings.Split("& < > \" ' \t \n a ; #39 lt", " "), 4, proper)
	for _, c := range everyByte() {
		for _, d := range everyByte() {
			proper(c + d)
		}
	}
	for _, s := range texts() {
		proper(s)
	}
}

// Any browser reads with a reader of its own.
func TestAnotherReaderReadsWhatIsEscaped(t *testing.T) {
	for _, s := range texts() {
		for _, escaped := range []string{entity.Text(s), entity.Attr(s)} {
			if got := html.UnescapeString(escaped); got != s {
				t.Fatalf("%q, %q escaped, is read as %q", escaped, s, got)
			}
		}
	}
}

// The bound of the promises is far beyond these; the time that each takes grows with the length alone.

func TestLongOnes(t *testing.T) {
	for _, s := range []string{strings.Repeat("a", 1<<21), strings.Repeat("&", 1<<20), strings.Repeat("<\t'\n", 1<<18), strings.Repeat(strings.Join(everyByte(), ""), 1<<12), strings.Repeat("&#", 1<<19), strings.Repeat("\xff", 1<<20)} {
		escapesAsDefined(t, s)
		decodes(t, entity.Text(s), s)
		decodes(t, entity.Attr(s), s)
		refuses(t, entity.Text(s)+"&")
	}
	decodes(t, strings.Repeat("&#x10FFFF;", 1<<17), strings.Repeat("\xf4\x8f\xbf\xbf", 1<<17))
	digits := "&#" + strings.Repeat("0", 1<<20)
	isOne(t, digits+"39;", 0, "", 0)
	refuses(t, digits+";")
	begins := strings.Repeat("&#x00", 1<<18)
	for at := range len(begins) {
		if _, _, ok := entity.One(begins, at); ok {
			t.Fatalf("a reference at %d", at)
		}
	}
}

// General rule 4

func TestAnswersAreNewMemory(t *testing.T) {
	s := "of plain bytes alone"
	if got := entity.Text(s); got != s || unsafe.StringData(got) == unsafe.StringData(s) {
		t.Errorf("Text(%q) = %q lies in the argument", s, got)
	}
	if got := entity.Attr(s); got != s || unsafe.StringData(got) == unsafe.StringData(s) {
		t.Errorf("Attr(%q) = %q lies in the argument", s, got)
	}
	if got, _ := entity.Decode(s); got != s || unsafe.StringData(got) == unsafe.StringData(s) {
		t.Errorf("Decode(%q) = %q lies in the argument", s, got)
	}
	held := "a&amp;b"
	if got, _, _ := entity.One(held, 1); got != "&" || unsafe.StringData(got) == unsafe.StringData(held[1:]) {
		t.Errorf("One(%q, 1) = %q lies in the argument", held, got)
	}
}
