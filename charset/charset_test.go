package charset_test

import (
	"math"
	"regexp"
	"slices"
	"strings"
	"testing"
	"unicode/utf8"

	"remitter/api"
	"remitter/charset"
)

// known is a set, the form of its texts, and how many characters it has.
type known struct {
	set  byte
	form *regexp.Regexp
	size int
}

var (
	formX = regexp.MustCompile(`\A[a-zA-Z0-9/\-?:().,'+ ]*\z`)
	sets  = []known{
		{'X', formX, 73},
		{'Y', regexp.MustCompile(`\A[A-Z0-9 .,\-()/='+:?!"%&*<>;]*\z`), 56},
		{'Z', regexp.MustCompile(`\A[a-zA-Z0-9/\-?:().,'+ =!"%&*<>;@#_{]*\z`), 86},
	}
)

const allX = "abcdefghijklmnopqrstuvwxyzABCDEFGHIJKLMNOPQRSTUVWXYZ0123456789/-?:().,'+ "

// texts are texts of X and of others, of characters of all lengths, and of bytes that are part of none.
var texts = []string{
	"", " ", "   ", "A", "a", "0", ".", "..", ":", "-", "::", "--", ":-", "-:", ":A", "-A", "A:", "A-", "AB:CD", "AB-CD", "A:B-C:D-E", ":::::::", "-------", allX,
	"ABCDEFG", "Abc 1/-?:().,'+", "Käse & Co", "Käse", "äöü", "ÄBC", "ABCÄ", "A€B", "€€€", "A😀B", "😀", "A\u0301", "Ł", "łłł", "Aİ", "／", "ＡＢ", "\u212a", "\u017f", "\u00a0", "\u2028",
	"\ufffd", "A\ufffdB", "\ufeffA", "\x00", "\x7f", "\t", "\n", "\r\n", "A\r\nB", "A\r\n:B", "A\n-B", "}", "{", "A_B", "a@b", "!\"%&*<>;=", "#", "[\\]^_`", "{|}~", "$",
	"a\xffb", "\xff", "\xff\xff", "\xe2\x82", "\xe2\x82A", "\xe2A\x82", "\x82", "\x80\x80", "\xc0\xaf", "\xc1\xbf", "\xe0\x80\xaf", "\xed\xa0\x80", "\xed\xbf\xbf", "\xf4\x90\x80\x80", "\xf0\x9f\x98",
	"\xf8\x88\x80\x80\x80", "\xc3", "A\xc3", "\xc3\xc3\xa4", "Ä:\xffB-", "-Ä:Ä-Ä", "ABC:€:€-€\xe2\x82:", "REF1", "A/B", "GB82WEST12345698765432", strings.Repeat("AB:-.Ä", 40), strings.Repeat(allX, 5),
}

// check is what P5.1 says of a set that there is.
func check(form *regexp.Regexp, s string) (int, api.Errno) {
	for at := 0; at < len(s); at++ {
		if !form.MatchString(s[at : at+1]) {
			return at, api.ErrChar
		}
	}
	return len(s), api.OK
}

// substituted is what P5.2 says.
func substituted(s string) string {
	var text strings.Builder
	for s != "" {
		_, size := utf8.DecodeRuneInString(s)
		if formX.MatchString(s[:size]) {
			text.WriteString(s[:size])
		} else {
			text.WriteString(".")
		}
		s = s[size:]
	}
	return text.String()
}

// folded is what P5.3 says of a width and a number of lines that may be.
func folded(s string, width, lines int) ([]string, int) {
	text := []byte(substituted(s))
	for at := 0; at < len(text); at += width {
		if text[at] == ':' || text[at] == '-' {
			text[at] = '.'
		}
	}
	var all []string
	for at := 0; at < len(text) && len(all) < lines; at += width {
		all = append(all, string(text[at:min(at+width, len(text))]))
	}
	whole := strings.Join(all, "")
	for n := len(whole); ; n-- {
		if strings.HasPrefix(s, whole[:n]) {
			return all, n
		}
	}
}

// holdFold holds what Fold tells against what the chapter says of it.
func holdFold(t *testing.T, s string, width, lines int) {
	t.Helper()
	want, wantKept := folded(s, width, lines)
	if l, kept, e := charset.Fold(s, width, lines); !slices.Equal(l, want) || kept != wantKept || e != api.OK {
		t.Errorf("Fold(%.60q, %d, %d): %.60q, %d, %v; not %.60q, %d", s, width, lines, l, kept, e, want, wantKept)
	}
}

// mixed are texts of many lengths, put together of pieces of others.
func mixed() []string {
	of := []string{"A", "b", "7", " ", ":", "-", ".", "/", "ä", "€", "😀", "\xff", "\xe2\x82", "\r\n", "@", "\ufffd"}
	var all []string
	seed := uint32(1)
	for n := range 300 {
		var text strings.Builder
		for range n % 40 {
			seed = seed*1664525 + 1013904223
			text.WriteString(of[seed>>16%16])
		}
		all = append(all, text.String())
	}
	return all
}

// P5.1
func TestCheckOfExamples(t *testing.T) {
	for _, x := range []struct {
		set byte
		s   string
		at  int
		e   api.Errno
	}{
		{'X', "", 0, api.OK}, {'Y', "", 0, api.OK}, {'Z', "", 0, api.OK},
		{'X', allX, len(allX), api.OK}, {'Z', allX, len(allX), api.OK}, {'Y', allX, 0, api.ErrChar},
		{'X', "AB_", 2, api.ErrChar}, {'X', "_AB_", 0, api.ErrChar}, {'X', "A_B_", 1, api.ErrChar}, {'X', "A=", 1, api.ErrChar}, {'X', "A;", 1, api.ErrChar}, {'X', "A{", 1, api.ErrChar},
		{'Y', "ABC 019.,-()/='+:?!\"%&*<>;", 26, api.OK}, {'Y', "ABc", 2, api.ErrChar}, {'Y', "A@", 1, api.ErrChar}, {'Y', "A#", 1, api.ErrChar}, {'Y', "A_", 1, api.ErrChar}, {'Y', "A{", 1, api.ErrChar},
		{'Z', "aZ9=!\"%&*<>;@#_{", 16, api.OK}, {'Z', "a}", 1, api.ErrChar}, {'Z', "a$", 1, api.ErrChar}, {'Z', "a\r\n", 1, api.ErrChar}, {'Z', "\n", 0, api.ErrChar},
		{'X', "Käse", 1, api.ErrChar}, {'Z', "A€B€", 1, api.ErrChar}, {'Y', "AB\xffC", 2, api.ErrChar}, {'X', "\xe2\x82", 0, api.ErrChar}, {'X', "AB\ufffd", 2, api.ErrChar}, {'Z', "A\x00", 1, api.ErrChar},
		{'Q', "a", 0, api.ErrArg}, {'Q', "", 0, api.ErrArg}, {'Q', "AB_", 0, api.ErrArg}, {'x', "AB\xff", 0, api.ErrArg}, {0, "A", 0, api.ErrArg}, {255, "A", 0, api.ErrArg},
	} {
		if at, e := charset.Check(x.set, x.s); at != x.at || e != x.e {
			t.Errorf("Check(%q, %q): %d, %v; not %d, %v", x.set, x.s, at, e, x.at, x.e)
		}
	}
}

// P5.1: every byte, alone and at every place of a text of all sets.
func TestCheckOfAllBytes(t *testing.T) {
	const text = "AB 12,3/"
	for _, k := range sets {
		of := 0
		for b := range 256 {
			one := string([]byte{byte(b)})
			if k.form.MatchString(one) {
				of++
			}
			for i := range len(text) {
				for _, s := range []string{one, text[:i] + one + text[i:], text[:i] + one + text[i:] + "\xff"} {
					want, wantE := check(k.form, s)
					if at, e := charset.Check(k.set, s); at != want || e != wantE {
						t.Errorf("Check(%q, %q): %d, %v; not %d, %v", k.set, s, at, e, want, wantE)
					}
				}
			}
		}
		if of != k.size {
			t.Errorf("the test's own %q has %d characters", k.set, of)
		}
	}
}

// P5.1: there is no other set, whatever the text is.
func TestCheckOfAllSets(t *testing.T) {
	for b := range 256 {
		set := byte(b)
		at := slices.IndexFunc(sets, func(k known) bool { return k.set == set })
		for _, s := range slices.Concat(texts, mixed()) {
			want, wantE := 0, api.ErrArg
			if at >= 0 {
				want, wantE = check(sets[at].form, s)
			}
			if got, e := charset.Check(set, s); got != want || e != wantE {
				t.Errorf("Check(%q, %q): %d, %v; not %d, %v", set, s, got, e, want, wantE)
			}
		}
	}
}

// P5.1, P5.2: of all characters of more bytes than one none is of a set, and each becomes one point.
func TestOfAllCharacters(t *testing.T) {
	for c := rune(utf8.RuneSelf); c <= utf8.MaxRune; c++ {
		if !utf8.ValidRune(c) {
			continue
		}
		s := "A" + string(c) + "B"
		if got := charset.Substitute(s); got != "A.B" {
			t.Fatalf("Substitute(%q): %q", s, got)
		}
		if c > 0x3000 && c%61 != 0 {
			continue
		}
		for _, k := range sets {
			if at, e := charset.Check(k.set, s); at != 1 || e != api.ErrChar {
				t.Fatalf("Check(%q, %q): %d, %v", k.set, s, at, e)
			}
		}
	}
}

// P5.2
func TestSubstituteOfExamples(t *testing.T) {
	for _, x := range [][2]string{
		{"", ""}, {"Käse & Co", "K.se . Co"}, {"Käse", "K.se"}, {allX, allX}, {":-A:-", ":-A:-"}, {" A ", " A "}, {"...", "..."}, {"A_B@C#D{E}", "A.B.C.D.E."},
		{"=!\"%&*<>;", "........."}, {"A\r\nB", "A..B"}, {"\x00\x7f", ".."}, {"A€B", "A.B"}, {"😀😀", ".."}, {"A\u0301", "A."}, {"Ł", "."}, {"\ufffd", "."}, {"\ufeffA", ".A"},
		{"a\xffb", "a.b"}, {"\xff\xfe", ".."}, {"\xe2\x82", ".."}, {"\xe2\x82\xac", "."}, {"\xe2\x82A", "..A"}, {"\xe2A\x82", ".A."}, {"\xed\xa0\x80", "..."}, {"\xc0\xaf", ".."}, {"\xf4\x90\x80\x80", "...."}, {"\xc3\xc3\xa4", ".."},
	} {
		if got := charset.Substitute(x[0]); got != x[1] {
			t.Errorf("Substitute(%q): %q; not %q", x[0], got, x[1])
		}
	}
}

// P5.2
func TestSubstitute(t *testing.T) {
	all := slices.Concat(texts, mixed(), []string{strings.Repeat("ä", api.MaxText/2), strings.Repeat("A", api.MaxText+1), strings.Repeat("\xff", api.MaxText)})
	for b := range 256 {
		all = append(all, string([]byte{byte(b)}), "A"+string([]byte{byte(b)})+":", "\xe2\x82"+string([]byte{byte(b)})+"-")
	}
	for _, s := range all {
		if got, want := charset.Substitute(s), substituted(s); got != want {
			t.Errorf("Substitute of %d bytes, %.60q: %.60q; not %.60q", len(s), s, got, want)
		}
	}
}

// P5.3
func TestFoldOfExamples(t *testing.T) {
	for _, x := range []struct {
		s            string
		width, lines int
		want         []string
		kept         int
	}{
		{"ABCDEFG", 3, 2, []string{"ABC", "DEF"}, 6},
		{"ABCDEFG", 3, 3, []string{"ABC", "DEF", "G"}, 7},
		{"ABCDEFG", 3, 4, []string{"ABC", "DEF", "G"}, 7},
		{"ABCDEF", 3, 3, []string{"ABC", "DEF"}, 6},
		{"ABCDEF", 3, 1, []string{"ABC"}, 3},
		{"ABCDEF", 6, 1, []string{"ABCDEF"}, 6},
		{"ABCDEF", 5, 1, []string{"ABCDE"}, 5},
		{"ABCDEF", 7, 1, []string{"ABCDEF"}, 6},
		{"ABC", 1, 2, []string{"A", "B"}, 2},
		{"ABC", 1, 9, []string{"A", "B", "C"}, 3},
		{"AB:CD", 2, 4, []string{"AB", ".C", "D"}, 2},
		{"AB-CD", 2, 4, []string{"AB", ".C", "D"}, 2},
		{"AB:CD", 2, 1, []string{"AB"}, 2},
		{"AB:CD", 3, 4, []string{"AB:", "CD"}, 5},
		{"AB-CD", 3, 4, []string{"AB-", "CD"}, 5},
		{":AB", 2, 4, []string{".A", "B"}, 0},
		{"-AB", 2, 4, []string{".A", "B"}, 0},
		{"::--", 2, 4, []string{".:", ".-"}, 0},
		{":-:", 1, 9, []string{".", ".", "."}, 0},
		{"A:B-C:", 1, 9, []string{"A", ".", "B", ".", "C", "."}, 1},
		{"A:B", 9, 1, []string{"A:B"}, 3},
		{".A:", 2, 2, []string{".A", "."}, 2},
		{"A€B", 9, 9, []string{"A.B"}, 1},
		{"ÄÖÜABC", 3, 9, []string{"...", "ABC"}, 0},
		{"ABC\xffDE", 3, 9, []string{"ABC", ".DE"}, 3},
		{"ABC:Ä", 3, 1, []string{"ABC"}, 3},
		{"ABCÄ", 3, 1, []string{"ABC"}, 3},
		{"Ä:B", 1, 9, []string{".", ".", "B"}, 0},
		{"A\r\nB", 9, 9, []string{"A..B"}, 1},
		{"  ", 1, 2, []string{" ", " "}, 2},
		{"", 3, 2, nil, 0},
		{"", 1, 1, nil, 0},
		{"", math.MaxInt, math.MaxInt, nil, 0},
		{"AB:CD", math.MaxInt, math.MaxInt, []string{"AB:CD"}, 5},
		{"A:B", 1, math.MaxInt, []string{"A", ".", "B"}, 1},
		{"-B", math.MaxInt, 1, []string{".B"}, 0},
	} {
		if l, kept, e := charset.Fold(x.s, x.width, x.lines); !slices.Equal(l, x.want) || kept != x.kept || e != api.OK {
			t.Errorf("Fold(%q, %d, %d): %q, %d, %v; not %q, %d", x.s, x.width, x.lines, l, kept, e, x.want, x.kept)
		}
	}
}

// P5.3
func TestFold(t *testing.T) {
	for _, s := range slices.Concat(texts, mixed()) {
		for _, width := range []int{1, 2, 3, 4, 5, 7, 10, 33, 35, 65, 400} {
			for _, lines := range []int{1, 2, 3, 4, 6, 10, 35, 1000} {
				holdFold(t, s, width, lines)
			}
		}
	}
	for _, s := range []string{strings.Repeat("AB:", api.MaxText/3), strings.Repeat("ä", api.MaxText/2), strings.Repeat("A", api.MaxText+1)} {
		for _, x := range [][2]int{{1, 1}, {1, api.MaxText}, {35, 4}, {35, api.MaxText}, {api.MaxText, 1}, {3, 1000}} {
			holdFold(t, s, x[0], x[1])
		}
	}
}

// P5.3: there is no width and no number of lines below 1, whatever the text is.
func TestFoldOfWrong(t *testing.T) {
	for _, s := range texts {
		for _, x := range [][2]int{{0, 1}, {1, 0}, {0, 0}, {-1, 1}, {1, -1}, {-1, -1}, {35, 0}, {0, 35}, {35, -4}, {-35, 4}, {-35, -4}, {math.MinInt, 1}, {1, math.MinInt}, {math.MinInt, math.MinInt}, {math.MaxInt, 0}, {0, math.MaxInt}} {
			if l, kept, e := charset.Fold(s, x[0], x[1]); len(l) != 0 || kept != 0 || e != api.ErrArg {
				t.Errorf("Fold(%q, %d, %d): %q, %d, %v", s, x[0], x[1], l, kept, e)
			}
		}
	}
}

// P5.3
func TestJoin(t *testing.T) {
	for _, x := range []struct {
		l    []string
		want string
	}{
		{nil, ""}, {[]string{}, ""}, {[]string{""}, ""}, {[]string{"", ""}, ""}, {[]string{"A"}, "A"}, {[]string{"A", "B"}, "AB"}, {[]string{"B", "A", "B"}, "BAB"},
		{[]string{"", "A", "", "B", ""}, "AB"}, {[]string{"AB", ".C", "D"}, "AB.CD"}, {[]string{" A ", " B "}, " A  B "}, {[]string{"A\r\n", "\r\nB"}, "A\r\n\r\nB"},
		{[]string{":A", "-B", "ä\xff"}, ":A-Bä\xff"}, {[]string{"\xe2\x82", "\xac"}, "€"}, {slices.Repeat([]string{"AB"}, 1000), strings.Repeat("AB", 1000)},
	} {
		l := slices.Clone(x.l)
		if got := charset.Join(l); got != x.want {
			t.Errorf("Join(%q): %q; not %q", x.l, got, x.want)
		}
		if !slices.Equal(l, x.l) {
			t.Errorf("Join changed %q to %q", x.l, l)
		}
	}
}

// P5.3: what is done to an answer is in no later one.
func TestFoldIsNew(t *testing.T) {
	for _, s := range texts {
		first, _, _ := charset.Fold(s, 2, 3)
		for i := range first[:cap(first)] {
			first[:cap(first)][i] = "other"
		}
		holdFold(t, s, 2, 3)
	}
}

// P5.4: what is substituted is of X, has as many bytes as the text has characters, and is itself, substituted again.
func TestWhatIsSubstituted(t *testing.T) {
	for _, s := range slices.Concat(texts, mixed()) {
		text := charset.Substitute(s)
		if at, e := charset.Check('X', text); at != len(text) || e != api.OK {
			t.Errorf("Check of Substitute(%q): %d, %v", s, at, e)
		}
		if len(text) != utf8.RuneCountInString(s) {
			t.Errorf("Substitute(%q): %d bytes; not %d", s, len(text), utf8.RuneCountInString(s))
		}
		if again := charset.Substitute(text); again != text {
			t.Errorf("Substitute(%q): %q", text, again)
		}
		if _, e := charset.Check('X', s); e == api.OK && text != s {
			t.Errorf("Substitute(%q): %q", s, text)
		}
	}
}

// P5.4: what is folded, of a text of X without : and -, and not too long, is joined the text, all kept.
func TestWhatIsFoldedIsJoined(t *testing.T) {
	long := strings.Repeat(strings.NewReplacer(":", "", "-", "").Replace(allX), 3)
	for n := range len(long) {
		s := long[:n]
		for _, width := range []int{1, 2, 3, 10, 33, 35, n, n + 1} {
			if width == 0 {
				continue
			}
			lines := max(1, (n+width-1)/width)
			for _, most := range []int{lines, lines + 1, math.MaxInt} {
				l, kept, e := charset.Fold(s, width, most)
				if charset.Join(l) != s || kept != n || e != api.OK {
					t.Errorf("Fold(%q, %d, %d): %q, %d, %v", s, width, most, l, kept, e)
				}
			}
		}
	}
}
