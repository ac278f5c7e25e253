package text_test

import (
	"encoding/xml"
	"fmt"
	"math/big"
	"regexp"
	"slices"
	"strings"
	"testing"
	"unicode/utf8"

	"remitter/api"
	"remitter/text"
)

var (
	formXML   = regexp.MustCompile(`\A[\x{9}\x{A}\x{D}\x{20}-\x{D7FF}\x{E000}-\x{FFFD}\x{10000}-\x{10FFFF}]\z`)
	formNamed = regexp.MustCompile(`\A&(amp|lt|gt|quot|apos);`)
	formTens  = regexp.MustCompile(`\A&#([0-9]{1,8});`)
	formHex   = regexp.MustCompile(`\A&#x([0-9a-fA-F]{1,8});`)
	escapes   = strings.NewReplacer("&", "&amp;", "<", "&lt;", ">", "&gt;", "\"", "&quot;", "'", "&apos;", "\t", "&#x9;", "\n", "&#xA;", "\r", "&#xD;")
	called    = map[string]string{"amp": "&", "lt": "<", "gt": ">", "quot": "\"", "apos": "'"}
)

// edges are the numbers at the ends of what is of XML, and beside them; and numbers that go round to some of XML.
var edges = []uint64{
	0, 1, 8, 9, 10, 11, 12, 13, 14, 31, 32, 33, 38, 60, 62, 65, 126, 127, 128, 159, 160, 255, 256, 0x7ff, 0x800, 0xd7fe, 0xd7ff, 0xd800, 0xdbff, 0xdc00, 0xdfff, 0xe000, 0xe001, 0xfdd0, 0xfffc, 0xfffd, 0xfffe, 0xffff,
	0x10000, 0x10001, 0x1fffe, 0x1ffff, 0x1f600, 0xfffff, 0x10fffe, 0x10ffff, 0x110000, 0x110001, 0x1fffff, 0x200041, 1 << 24, 1<<24 + 65, 99999999, 1<<31 - 1, 1 << 31, 1<<31 + 65, 1<<32 - 1, 1 << 32, 1<<32 + 65, 1<<64 - 1,
}

// plain are texts of XML that stand as they are, escaped too.
var plain = []string{
	"", " ", "   ", "A", "a b", "0", "#", ";", "#65;", "amp;", "x", "=!%*@_{}[]\\|~^`$", "Käse", "aß€", "A€B", "😀", "\u0301", "\u0080", "\u0085", "\u00a0", "\u2028", "\u3000", "\ufeffA", "\ufffd", "A\ufffdB", "\ufffd\ufffd", "\x7f",
	"\ud7ff", "\ue000", "\ufdd0", "\U00010000", "\U0001fffe", "\U0001ffff", "\U0010ffff", "＆＜＞；", strings.Repeat("ab€😀", 100),
}

// marked are texts of XML of which there are characters that are escaped.
var marked = []string{
	"&", "<", ">", "\"", "'", "\t", "\n", "\r", "\r\n", "&&", "&;", "<>", "a<b & 'c'", "a<b & \"c'\n>", "\t\n\r \"'<>&", "&amp;", "&amp;amp;", "&lt;b&gt;", "&#65;", "&#x41;", "&#0;", "Käse & Co", "ä<ö>ü&ß\"€'😀\n", "]]>", "<![CDATA[&]]>", "<!-- x -->",
	"a&", "&a", "<a b=\"1&amp;2\">\n\tx\n</a>\n", strings.Repeat("&", 1000), strings.Repeat("<\ufffd'>", 300),
}

// broken are texts that are no UTF-8, whatever else is wrong with them.
var broken = []string{
	"\xff", "\xfe", "\x80", "\xbf", "\xc0", "\xc1", "\xc3", "\xe2", "\xe2\x82", "\xf0\x9f", "\xf0\x9f\x98", "\xf5", "\xf8\x88\x80\x80\x80", "\xc0\xaf", "\xc0\xbc", "\xc1\xbf", "\xe0\x80\xaf", "\xe0\x9f\xbf", "\xf0\x80\x80\xa6", "\xf0\x8f\xbf\xbf",
	"\xed\xa0\x80", "\xed\xad\xbf", "\xed\xae\x80", "\xed\xb0\x80", "\xed\xbf\xbf", "\xed\xa0\xbd\xed\xb8\x80", "\xf4\x90\x80\x80", "\xf4\xbf\xbf\xbf", "\xf7\xbf\xbf\xbf",
	"a\xffb", "aß\xff", "a\xe2\x82b", "\xe2a\x82", "\x82\xe2", "\ufffd\xff", "a\ufffd\xef\xbf", "\xef\xbf", "\xff&lt;", "&\xff", "&\xffamp;", "&amp\xff;", "&#6\xff5;", "&lt;\xff<\xc3>\xe2\x82&gt;", "<\xff>", "\xff&\xfe", "\x00\xff", "\xff\x00", "a\x00\xff", "a\xff\x00", "\ufffe\xff", "\xff\ufffe", strings.Repeat("\xff", 300),
}

// others are UTF-8, of which there are characters that are not of XML.
var others = []string{
	"\x00", "ab\x00", "\x01", "\x08", "\x0b", "\x0c", "\x0e", "\x1f", "\x1b[0m", "\ufffe", "\uffff", "a\ufffe", "ä\uffff", "x\xef\xbf\xbe", "€\x0b€", "😀\x00", "\t\x0b\t", "\n\x0c", "<\x00>", "&\x00", "&\x00;", "&amp;\x00", "\x00&b;", "\x00\x00", "\ufffd\ufffe", "\x1f\x20", "\x0b\x0c\u0085",
}

// noReference are texts that begin as references do, and are none.
var noReference = []string{
	"&", "&;", "& ;", "&&", "&&;", "&&amp;", "&amp", "&lt", "&am;", "&ampl;", "&amp ;", "& amp;", "&\tamp;", "&amp\n;", "&AMP;", "&Amp;", "&LT;", "&Lt;", "&quot", "&QUOT;", "&apo;", "&aposs;", "&nbsp;", "&a;", "&b;", "&copy;", "&auml;", "&amp&lt;", "&amp&;", "&amp#;", "&#amp;", "&#xamp;", "&amp：", "&ａmp;", "&аmp;", "&amp；", "&lt,gt;", "&;amp;",
	"&#", "&#;", "&#x", "&#x;", "&#X;", "&#X41;", "&x41;", "&41;", "&65;", "&##65;", "&# 65;", "&#65 ;", "&#6 5;", "&#\n65;", "&#65", "&#65&", "&#65&;", "&#x41", "&#x 41;", "&#x41 ;", "&#x4 1;", "&#xx41;", "&#0x41;", "&#x0x41;", "&#x#41;", "&# x41;", "&#41x;", "&#4x1;",
	"&#+65;", "&#-65;", "&#x+41;", "&#x-41;", "&#6_5;", "&#_65;", "&#x4_1;", "&#x_41;", "&#65.;", "&#6.5;", "&#65,0;", "&#6e1;", "&#1e1;", "&#0b1;", "&#0o1;", "&#0o101;", "&#a;", "&#A;", "&#4A;", "&#6a;", "&#xG;", "&#xg;", "&#x4g;", "&#x4G;", "&#x@;", "&#x`;", "&#x/;", "&#x:;", "&#/;", "&#:;", "&#x4h1;", "&#٣;", "&#６５;", "&#x４１;", "&#65\x00;", "&#\x0065;", "&#6\xff5;",
	"&#0;", "&#00;", "&#00000000;", "&#1;", "&#8;", "&#11;", "&#12;", "&#14;", "&#31;", "&#55296;", "&#56320;", "&#57343;", "&#65534;", "&#65535;", "&#1114112;", "&#9999999;", "&#99999999;", "&#x0;", "&#x8;", "&#xB;", "&#xc;", "&#xE;", "&#x1f;", "&#xD800;", "&#xdbff;", "&#xDC00;", "&#xDFFF;", "&#xFFFE;", "&#xFFFF;", "&#x110000;", "&#x7fffffff;", "&#x80000041;", "&#xFFFFFFFF;", "&#xffffffff;",
	"&#000000065;", "&#000000000;", "&#0000000065;", "&#100000000;", "&#4294967361;", "&#18446744073709551681;", "&#x000000041;", "&#x0000000041;", "&#x100000041;", "&#x10000000000000041;", "&#" + strings.Repeat("0", 1000) + "65;", "&#x" + strings.Repeat("f", 1000) + ";",
	"&" + strings.Repeat("a", api.MaxText) + ";", "&#" + strings.Repeat("6", api.MaxText) + ";", strings.Repeat("&", api.MaxText+1), "&" + strings.Repeat(";", api.MaxText), "&amp" + strings.Repeat("p", api.MaxText),
}

// references are references, and their characters.
var references = map[string]string{
	"&amp;": "&", "&lt;": "<", "&gt;": ">", "&quot;": "\"", "&apos;": "'", "&#9;": "\t", "&#10;": "\n", "&#13;": "\r", "&#32;": " ", "&#38;": "&", "&#60;": "<", "&#65;": "A", "&#065;": "A", "&#0000065;": "A", "&#00000065;": "A", "&#8364;": "€", "&#55295;": "\ud7ff", "&#57344;": "\ue000", "&#65533;": "\ufffd", "&#65536;": "\U00010000", "&#1114111;": "\U0010ffff", "&#01114111;": "\U0010ffff",
	"&#x9;": "\t", "&#xA;": "\n", "&#xa;": "\n", "&#xD;": "\r", "&#xd;": "\r", "&#x20;": " ", "&#x26;": "&", "&#x3C;": "<", "&#x3c;": "<", "&#x41;": "A", "&#x0041;": "A", "&#x00000041;": "A", "&#x20AC;": "€", "&#x20ac;": "€", "&#x20aC;": "€", "&#xD7FF;": "\ud7ff", "&#xE000;": "\ue000", "&#xFFFD;": "\ufffd", "&#x10000;": "\U00010000", "&#x1F600;": "😀", "&#x1f600;": "😀", "&#x10FFFF;": "\U0010ffff", "&#x0010fFfF;": "\U0010ffff",
}

// texts are all kinds of texts.
func texts() []string {
	return slices.Concat(plain, marked, broken, others, noReference)
}

// mixed are texts of many lengths, put together of pieces of others.
func mixed() []string {
	of := []string{"A", "é", "€", "😀", "\ufffd", "&", ";", "#", "#x", "x", "amp", "lt;", "&gt;", "&#65;", "&#x1F600;", "&#0;", "<", "'", "\t", "\r\n", "\xff", "\xe2\x82", "\x00", "\ufffe"}
	var all []string
	seed := uint32(1)
	for n := range 4000 {
		var made strings.Builder
		for range n % 25 {
			seed = seed*1664525 + 1013904223
			made.WriteString(of[seed>>16%uint32(len(of))])
		}
		all = append(all, made.String())
	}
	return all
}

// check is what P8.1 says.
func check(s string) (int, api.Errno) {
	for at := 0; at < len(s); {
		c, size := utf8.DecodeRuneInString(s[at:])
		if c == utf8.RuneError && size == 1 {
			return at, api.ErrUtf8
		}
		if !formXML.MatchString(s[at : at+size]) {
			return at, api.ErrChar
		}
		at += size
	}
	return len(s), api.OK
}

// ofNumber is the character of digits of a base, if it is one of XML.
func ofNumber(digits string, base int) (string, bool) {
	n, _ := new(big.Int).SetString(digits, base)
	if !n.IsInt64() || n.Int64() > utf8.MaxRune || !utf8.ValidRune(rune(n.Int64())) {
		return "", false
	}
	c := string(rune(n.Int64()))
	return c, formXML.MatchString(c)
}

// reference is the character and the length of the reference that a text begins with.
func reference(s string) (string, int, bool) {
	if m := formNamed.FindStringSubmatch(s); m != nil {
		return called[m[1]], len(m[0]), true
	}
	base, m := 10, formTens.FindStringSubmatch(s)
	if m == nil {
		base, m = 16, formHex.FindStringSubmatch(s)
	}
	if m == nil {
		return "", 0, false
	}
	c, is := ofNumber(m[1], base)
	return c, len(m[0]), is
}

// unescaped is what P8.2 says of Unescape.
func unescaped(s string) (string, int, api.Errno) {
	var made []byte
	for at := 0; at < len(s); {
		if s[at] != '&' {
			made = append(made, s[at])
			at++
			continue
		}
		c, size, is := reference(s[at:])
		if !is {
			return "", at, api.ErrEntity
		}
		made = append(made, c...)
		at += size
	}
	return string(made), len(s), api.OK
}

// holdCheck holds what Check tells against what the chapter says of it.
func holdCheck(t *testing.T, s string) {
	t.Helper()
	want, wantE := check(s)
	if at, e := text.Check(s); at != want || e != wantE {
		t.Errorf("Check of %d bytes, %.40q: %d, %v; not %d, %v", len(s), s, at, e, want, wantE)
	}
}

// holdUnescape holds what Unescape tells against what the chapter says of it.
func holdUnescape(t *testing.T, s string) {
	t.Helper()
	want, wantAt, wantE := unescaped(s)
	if got, at, e := text.Unescape(s); got != want || at != wantAt || e != wantE {
		t.Errorf("Unescape of %d bytes, %.40q: %.40q, %d, %v; not %.40q, %d, %v", len(s), s, got, at, e, want, wantAt, wantE)
	}
}

// holdEscape holds what Escape tells against what the chapter says of it, and of what follows.
func holdEscape(t *testing.T, s string) {
	t.Helper()
	got := text.Escape(s)
	if got != escapes.Replace(s) || strings.ContainsAny(got, "<>\"'\t\n\r") {
		t.Errorf("Escape of %d bytes, %.40q: %.60q; not %.60q", len(s), s, got, escapes.Replace(s))
	}
	if back, at, e := text.Unescape(got); back != s || at != len(got) || e != api.OK {
		t.Errorf("Unescape of %.60q: %.40q, %d, %v; not %.40q, which was escaped", got, back, at, e, s)
	}
}

// hold holds all that the package tells of a text against what the chapter says of it.
func hold(t *testing.T, s string) {
	t.Helper()
	holdCheck(t, s)
	holdUnescape(t, s)
	holdEscape(t, s)
	if is, want := text.Blank(s), len(strings.Trim(s, " \t\n\r")) == 0; is != want {
		t.Errorf("Blank of %d bytes, %.40q: %v", len(s), s, is)
	}
}

// P8.1
func TestCheckOfExamples(t *testing.T) {
	for _, s := range slices.Concat(plain, marked) {
		if at, e := text.Check(s); at != len(s) || e != api.OK {
			t.Errorf("Check(%.40q): %d, %v", s, at, e)
		}
	}
	for _, s := range broken {
		if at, e := text.Check(s); at >= len(s) || e == api.OK {
			t.Errorf("Check(%.40q): %d, %v", s, at, e)
		}
	}
	for _, s := range others {
		if at, e := text.Check(s); at >= len(s) || e != api.ErrChar {
			t.Errorf("Check(%.40q): %d, %v", s, at, e)
		}
	}
	for _, x := range []struct {
		s  string
		at int
		e  api.Errno
	}{
		{"", 0, api.OK}, {"aß€", 6, api.OK}, {"a\tß\n€\r😀", 13, api.OK}, {"\ufffd", 3, api.OK}, {"\U0010ffff", 4, api.OK}, {"<&amp>", 6, api.OK},
		{"\xff", 0, api.ErrUtf8}, {"a\xffb", 1, api.ErrUtf8}, {"aß\xff", 3, api.ErrUtf8}, {"€\xe2\x82", 3, api.ErrUtf8}, {"€\xe2\x82A", 3, api.ErrUtf8}, {"ab\x80", 2, api.ErrUtf8}, {"a\ufffd\xff", 4, api.ErrUtf8}, {"a\xef\xbf", 1, api.ErrUtf8},
		{"a\xed\xa0\x80", 1, api.ErrUtf8}, {"a\xed\xbf\xbf", 1, api.ErrUtf8}, {"a\xc0\x80", 1, api.ErrUtf8}, {"a\xc0\xaf", 1, api.ErrUtf8}, {"a\xe0\x80\xaf", 1, api.ErrUtf8}, {"a\xf4\x90\x80\x80", 1, api.ErrUtf8}, {"a\xf8\x88\x80\x80\x80", 1, api.ErrUtf8},
		{"\x00", 0, api.ErrChar}, {"ab\x00", 2, api.ErrChar}, {"a\x08", 1, api.ErrChar}, {"a\x0b", 1, api.ErrChar}, {"a\x0c", 1, api.ErrChar}, {"a\x0e", 1, api.ErrChar}, {"a\x1f", 1, api.ErrChar}, {"€\ufffe", 3, api.ErrChar}, {"😀\uffff", 4, api.ErrChar},
		{"a\x00\xff", 1, api.ErrChar}, {"a\xff\x00", 1, api.ErrUtf8}, {"\ufffe\xff", 0, api.ErrChar}, {"\xff\ufffe", 0, api.ErrUtf8}, {"ab\x00c\x01", 2, api.ErrChar}, {"ab\xffc\xfe", 2, api.ErrUtf8},
	} {
		if at, e := text.Check(x.s); at != x.at || e != x.e {
			t.Errorf("Check(%q): %d, %v; not %d, %v", x.s, at, e, x.at, x.e)
		}
	}
}

// P8.2: the escaped text.
func TestEscapeOfExamples(t *testing.T) {
	for _, s := range plain {
		if got := text.Escape(s); got != s {
			t.Errorf("Escape(%.40q): %.40q", s, got)
		}
	}
	for _, x := range [][2]string{
		{"&", "&amp;"}, {"<", "&lt;"}, {">", "&gt;"}, {"\"", "&quot;"}, {"'", "&apos;"}, {"\t", "&#x9;"}, {"\n", "&#xA;"}, {"\r", "&#xD;"}, {" ", " "},
		{"a<b & 'c'", "a&lt;b &amp; &apos;c&apos;"}, {"&amp;", "&amp;amp;"}, {"&#x9;", "&amp;#x9;"}, {"&&", "&amp;&amp;"}, {"\r\n", "&#xD;&#xA;"}, {"\"\"", "&quot;&quot;"},
		{"ä<ß>€", "ä&lt;ß&gt;€"}, {"a\xff&\xfe", "a\xff&amp;\xfe"}, {"\xe2\x82<", "\xe2\x82&lt;"}, {"\x00<\x0b", "\x00&lt;\x0b"}, {"\ufffd'\ufffe", "\ufffd&apos;\ufffe"}, {"\xc0\xbc", "\xc0\xbc"}, {"\u0085\u00a0\u2028", "\u0085\u00a0\u2028"}, {"\v\f\x7f", "\v\f\x7f"},
	} {
		if got := text.Escape(x[0]); got != x[1] {
			t.Errorf("Escape(%q): %q; not %q", x[0], got, x[1])
		}
	}
}

// P8.2: each reference, alone, beside others and within a text.
func TestUnescapeOfReferences(t *testing.T) {
	for one, c := range references {
		for other, d := range references {
			for _, x := range [][2]string{{one, c}, {one + other, c + d}, {"a" + one + ";ä" + other + "\xff", "a" + c + ";ä" + d + "\xff"}} {
				if got, at, e := text.Unescape(x[0]); got != x[1] || at != len(x[0]) || e != api.OK {
					t.Errorf("Unescape(%q): %q, %d, %v; not %q", x[0], got, at, e, x[1])
				}
			}
		}
	}
	for _, x := range [][2]string{
		{"", ""}, {"&#65;&#x42;&amp;", "AB&"}, {"&amp;lt;", "&lt;"}, {"&amp;amp;", "&amp;"}, {"&amp;#65;", "&#65;"}, {"&#38;lt;", "&lt;"}, {"&#x26;#38;", "&#38;"}, {"&lt;;", "<;"}, {"&lt;amp;", "<amp;"}, {";&gt;#", ";>#"}, {"<\t>\"'\r\n", "<\t>\"'\r\n"},
		{"\xff\x00&lt;\xe2\x82&gt;\ufffe", "\xff\x00<\xe2\x82>\ufffe"}, {"#65;", "#65;"}, {"＆amp;", "＆amp;"},
	} {
		if got, at, e := text.Unescape(x[0]); got != x[1] || at != len(x[0]) || e != api.OK {
			t.Errorf("Unescape(%q): %q, %d, %v; not %q", x[0], got, at, e, x[1])
		}
	}
}

// P8.2: the first & that begins no reference is told, and nothing beside it.
func TestUnescapeOfWrong(t *testing.T) {
	for _, s := range noReference {
		for _, ahead := range []string{"", "a", "ä;", "&amp;", "&#65;;", "\xff\x00"} {
			for _, behind := range []string{"", " ;", "&b;", "&lt;"} {
				whole := ahead + s + behind
				if got, at, e := text.Unescape(whole); got != "" || at != len(ahead) || e != api.ErrEntity {
					t.Errorf("Unescape of %d bytes, %.40q: %.40q, %d, %v; not at %d", len(whole), whole, got, at, e, len(ahead))
				}
			}
		}
	}
	for _, x := range []struct {
		s  string
		at int
	}{{"a&b;", 1}, {"&#0;", 0}, {"a & b", 2}, {"&amp;&amp", 5}, {"&amp &lt;", 0}, {"&&amp;", 0}, {"€&#65;&#xFFFE;&b;", 8}, {"&lt;&gt;&nbsp;&", 8}, {"\xff&\xff;", 1}} {
		if got, at, e := text.Unescape(x.s); got != "" || at != x.at || e != api.ErrEntity {
			t.Errorf("Unescape(%q): %q, %d, %v; not at %d", x.s, got, at, e, x.at)
		}
	}
}

// P8.2: all numbers to the last character and some more, with digits of either size and noughts ahead.
func TestUnescapeOfAllNumbers(t *testing.T) {
	forms := []string{"&#%d;", "&#x%x;", "&#x%X;", "&#%08d;", "&#x%08X;", "&#%09d;", "&#x%09x;"}
	for n := range uint64(utf8.MaxRune + 100) {
		c := string(rune(n))
		is := n <= utf8.MaxRune && utf8.ValidRune(rune(n)) && formXML.MatchString(c)
		for at, form := range forms {
			s := fmt.Sprintf(form, n)
			want, wantAt, wantE := c, len(s), api.OK
			if !is || at >= 5 {
				want, wantAt, wantE = "", 0, api.ErrEntity
			}
			if got, at, e := text.Unescape(s); got != want || at != wantAt || e != wantE {
				t.Fatalf("Unescape(%q): %q, %d, %v; not %q, %d, %v", s, got, at, e, want, wantAt, wantE)
			}
		}
	}
	for _, n := range edges {
		for _, form := range forms {
			holdUnescape(t, "a"+fmt.Sprintf(form, n)+"b")
		}
	}
}

// P8.1, P8.2, P8.4: all characters, and what would be one, were it UTF-8.
func TestOfAllCharacters(t *testing.T) {
	for c := rune(0); c <= utf8.MaxRune; c++ {
		s := "A" + string(c) + "B"
		want, wantE := len(s), api.OK
		if !utf8.ValidRune(c) {
			// Written out, for a string of it would be another character.
			s = "A" + string([]byte{byte(0xe0 | c>>12), byte(0x80 | c>>6&0x3f), byte(0x80 | c&0x3f)}) + "B"
			want, wantE = 1, api.ErrUtf8
		} else if !formXML.MatchString(string(c)) {
			want, wantE = 1, api.ErrChar
		}
		if at, e := text.Check(s); at != want || e != wantE {
			t.Fatalf("Check(%q): %d, %v; not %d, %v", s, at, e, want, wantE)
		}
		if got := text.Escape(s); got != escapes.Replace(s) {
			t.Fatalf("Escape(%q): %q", s, got)
		}
		if got, at, e := text.Unescape(text.Escape(s)); got != s || at != len(text.Escape(s)) || e != api.OK {
			t.Fatalf("Unescape(%q): %q, %d, %v", text.Escape(s), got, at, e)
		}
	}
}

// P8.1 to P8.4: every byte at every place, one too few and one too many; and every two bytes.
func TestOfAllBytes(t *testing.T) {
	for _, s := range []string{"", "A", "ä€😀", "a\ufffdb", "&amp;", "&lt;", "&gt;", "&quot;", "&apos;", "&#65;", "&#x4a;", "&#00000065;", "&#x0010FFFF;", "a&#x1F600;b&lt;c", " \t\n\r"} {
		for at := range len(s) {
			hold(t, s[:at]+s[at+1:])
			for b := range 256 {
				hold(t, s[:at]+string([]byte{byte(b)})+s[at+1:])
				hold(t, s[:at]+string([]byte{byte(b)})+s[at:])
			}
		}
		for b := range 256 {
			hold(t, s+string([]byte{byte(b)}))
		}
	}
	for n := range 1 << 16 {
		hold(t, string([]byte{byte(n >> 8), byte(n)}))
		holdCheck(t, string([]byte{0xef, byte(n >> 8), byte(n)}))
		holdCheck(t, string([]byte{0xed, byte(n >> 8), byte(n), 'A'}))
		holdCheck(t, string([]byte{0xf4, byte(n >> 8), byte(n), 0x80}))
	}
}

// P8.1 to P8.4: all kinds of texts, each behind another too.
func TestOfAllKinds(t *testing.T) {
	for _, s := range slices.Concat(texts(), mixed()) {
		hold(t, s)
		hold(t, "A€&lt;"+s+"&#x20AC;")
	}
}

// P8.1 to P8.4: every text of a few pieces.
func TestOfAllShort(t *testing.T) {
	of := []string{"&", "#", "x", ";", "4", "1", "0", "lt", "\xff"}
	made := []string{""}
	for from := 0; len(made) < 60000; {
		for to := len(made); from < to; from++ {
			for _, piece := range of {
				made = append(made, made[from]+piece)
			}
		}
	}
	for _, s := range made {
		holdUnescape(t, s)
		holdUnescape(t, "&"+s+";")
		holdUnescape(t, "&#"+s+";")
		holdEscape(t, s)
	}
}

// P8.3
func TestBlank(t *testing.T) {
	for _, s := range []string{"", " ", "\t", "\n", "\r", " \t\r\n", "\n\n\n", strings.Repeat(" \t\r\n", api.MaxText/4+1)} {
		if !text.Blank(s) {
			t.Errorf("Blank of %d bytes, %.40q: false", len(s), s)
		}
	}
	for _, s := range []string{"x", " x ", "x ", " x", "\v", "\f", "\x00", "\x1f", "\x7f", "\x85", "\xa0", "\xff", " \xff ", "\u0085", "\u00a0", "\u1680", "\u2003", "\u2028", "\u2029", "\u200b", "\u3000", "\ufeff", "\ufffd", "&#x20;", "&#9;", "_", " \u00a0 ", strings.Repeat(" ", api.MaxText) + "."} {
		if text.Blank(s) {
			t.Errorf("Blank of %d bytes, %.40q: true", len(s), s)
		}
	}
	for b := range 256 {
		one := string([]byte{byte(b)})
		want := b == 32 || b == 9 || b == 10 || b == 13
		for _, s := range []string{one, " " + one, one + "\t", "\n\r" + one + " "} {
			if text.Blank(s) != want {
				t.Errorf("Blank(%q): %v", s, !want)
			}
		}
	}
}

// P8.4: what is escaped has none of those characters, and any other reader of XML reads the text from it.
func TestFollows(t *testing.T) {
	for _, s := range slices.Concat(texts(), mixed()) {
		holdEscape(t, s)
		if _, e := text.Check(s); e != api.OK || len(s) > 1<<16 {
			continue
		}
		var read string
		if e := xml.Unmarshal([]byte("<a>"+text.Escape(s)+"</a>"), &read); e != nil || read != s {
			t.Errorf("%.60q is read as %.40q, %v; not %.40q", text.Escape(s), read, e, s)
		}
	}
	// Escaped twice and unescaped twice it is the text too.
	for _, s := range slices.Concat(plain, marked, broken, others) {
		once, _, _ := text.Unescape(text.Escape(text.Escape(s)))
		if twice, _, e := text.Unescape(once); twice != s || e != api.OK {
			t.Errorf("%.40q is %.40q, %v", s, twice, e)
		}
	}
}

// P8.2, P8.4: the greatest texts there are of a message, in every kind of piece.
func TestOfLong(t *testing.T) {
	for _, piece := range []string{"&", "&amp;", "&#65;", "&#x1F600;", "<", "'", "\n", "ä", "\xff", "\x00", ";", "&;", "&amp"} {
		s := strings.Repeat(piece, api.MaxText/len(piece)+1)
		holdEscape(t, s)
		if piece == "&amp;" || piece == "&#65;" || piece[0] != '&' {
			holdUnescape(t, s)
		}
		if at, e := text.Check(s); e == api.OK && at != len(s) || e != api.OK && at != 0 {
			t.Errorf("Check of %d bytes, %.40q: %d, %v", len(s), s, at, e)
		}
	}
}
