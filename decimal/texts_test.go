package decimal_test

import (
	"fmt"
	"math/big"
	"regexp"
	"strings"
	"testing"

	"remitter/api"
	"remitter/decimal"
)

// family is one of the two forms of a number's text.
type family struct {
	name  string
	parse func(string) (api.Num, api.Errno)
	write func(api.Num) (string, api.Errno)
	mark  string
	form  *regexp.Regexp
}

var families = []family{
	{"MT", decimal.ParseMT, decimal.MT, ",", regexp.MustCompile(`\A([0-9]+),([0-9]*)\z`)},
	{"XML", decimal.ParseXML, decimal.XML, ".", regexp.MustCompile(`\A([0-9]+)(?:\.([0-9]+))?\z`)},
}

// read is what P1.1 says of a text.
func (f family) read(s string) (api.Num, api.Errno) {
	m := f.form.FindStringSubmatch(s)
	if m == nil {
		return api.Num{}, api.ErrDigits
	}
	c, _ := new(big.Int).SetString(m[1]+m[2], 10)
	if len(m[2]) > api.MaxScale || c.Cmp(big.NewInt(api.MaxCoef)) >= 0 {
		return api.Num{}, api.ErrRange
	}
	return api.Num{C: c.Int64(), S: len(m[2])}, api.OK
}

// check holds what is read against what P1.1 says.
func (f family) check(t *testing.T, s string) {
	t.Helper()
	want, wantE := f.read(s)
	if n, e := f.parse(s); n != want || e != wantE {
		t.Errorf("Parse%s(%q): %+v, %v; not %+v, %v", f.name, s, n, e, want, wantE)
	}
}

// P1.1
func TestParseOfExamples(t *testing.T) {
	most := strings.Repeat("9", 18)
	for _, x := range []struct {
		parse func(string) (api.Num, api.Errno)
		s     string
		n     api.Num
		e     api.Errno
	}{
		{decimal.ParseMT, "12,50", api.Num{C: 1250, S: 2}, api.OK},
		{decimal.ParseMT, "0012,5", api.Num{C: 125, S: 1}, api.OK},
		{decimal.ParseMT, "7,", api.Num{C: 7}, api.OK},
		{decimal.ParseMT, "0,", api.Num{}, api.OK},
		{decimal.ParseMT, "0,00", api.Num{S: 2}, api.OK},
		{decimal.ParseMT, "0,12345", api.Num{C: 12345, S: 5}, api.OK},
		{decimal.ParseMT, "1,123456", api.Num{}, api.ErrRange},
		{decimal.ParseMT, "1,000000", api.Num{}, api.ErrRange},
		{decimal.ParseMT, "0,000000", api.Num{}, api.ErrRange},
		{decimal.ParseMT, most + ",", api.Num{C: top}, api.OK},
		{decimal.ParseMT, "000" + most + ",", api.Num{C: top}, api.OK},
		{decimal.ParseMT, most[:13] + "," + most[:5], api.Num{C: top, S: 5}, api.OK},
		{decimal.ParseMT, most + ",0", api.Num{}, api.ErrRange},
		{decimal.ParseMT, "1" + strings.Repeat("0", 18) + ",", api.Num{}, api.ErrRange},
		{decimal.ParseMT, most + most + ",", api.Num{}, api.ErrRange},
		{decimal.ParseMT, "7", api.Num{}, api.ErrDigits},
		{decimal.ParseMT, "", api.Num{}, api.ErrDigits},
		{decimal.ParseMT, ",", api.Num{}, api.ErrDigits},
		{decimal.ParseMT, ",5", api.Num{}, api.ErrDigits},
		{decimal.ParseMT, "1.5", api.Num{}, api.ErrDigits},
		{decimal.ParseMT, "1,2,3", api.Num{}, api.ErrDigits},
		{decimal.ParseMT, "1,123456x", api.Num{}, api.ErrDigits},
		{decimal.ParseMT, most + "9x,", api.Num{}, api.ErrDigits},
		{decimal.ParseMT, "-0,", api.Num{}, api.ErrDigits},
		{decimal.ParseMT, "+1,", api.Num{}, api.ErrDigits},
		{decimal.ParseMT, "1e5", api.Num{}, api.ErrDigits},
		{decimal.ParseXML, "12.50", api.Num{C: 1250, S: 2}, api.OK},
		{decimal.ParseXML, "12", api.Num{C: 12}, api.OK},
		{decimal.ParseXML, "007.10", api.Num{C: 710, S: 2}, api.OK},
		{decimal.ParseXML, "0", api.Num{}, api.OK},
		{decimal.ParseXML, "000.000", api.Num{S: 3}, api.OK},
		{decimal.ParseXML, "1.12345", api.Num{C: 112345, S: 5}, api.OK},
		{decimal.ParseXML, "1.123456", api.Num{}, api.ErrRange},
		{decimal.ParseXML, most, api.Num{C: top}, api.OK},
		{decimal.ParseXML, most + ".0", api.Num{}, api.ErrRange},
		{decimal.ParseXML, "1" + strings.Repeat("0", 18), api.Num{}, api.ErrRange},
		{decimal.ParseXML, "12.", api.Num{}, api.ErrDigits},
		{decimal.ParseXML, ".5", api.Num{}, api.ErrDigits},
		{decimal.ParseXML, ".", api.Num{}, api.ErrDigits},
		{decimal.ParseXML, "", api.Num{}, api.ErrDigits},
		{decimal.ParseXML, "12,50", api.Num{}, api.ErrDigits},
		{decimal.ParseXML, "1.2.3", api.Num{}, api.ErrDigits},
		{decimal.ParseXML, "1.123456.", api.Num{}, api.ErrDigits},
		{decimal.ParseXML, most + most + ".", api.Num{}, api.ErrDigits},
		{decimal.ParseXML, "-1", api.Num{}, api.ErrDigits},
		{decimal.ParseXML, " 1", api.Num{}, api.ErrDigits},
		{decimal.ParseXML, "1_0", api.Num{}, api.ErrDigits},
	} {
		if n, e := x.parse(x.s); n != x.n || e != x.e {
			t.Errorf("%q: %+v, %v; not %+v, %v", x.s, n, e, x.n, x.e)
		}
	}
}

// P1.1: every short text of what stands in numbers, and of what looks like it.
func TestParseOfAllShortTexts(t *testing.T) {
	texts, start := []string{""}, 0
	for range 5 {
		end := len(texts)
		for _, s := range texts[start:end] {
			for _, c := range []string{"0", "1", "9", ",", ".", "-", "e"} {
				texts = append(texts, s+c)
			}
		}
		start = end
	}
	for _, f := range families {
		for _, s := range texts {
			f.check(t, s)
		}
	}
}

// P1.1: every byte at every place of a text.
func TestParseOfAllBytes(t *testing.T) {
	for _, f := range families {
		whole := "12" + f.mark + "34"
		for i := range len(whole) + 1 {
			for b := range 256 {
				f.check(t, whole[:i]+string([]byte{byte(b)})+whole[i:])
				if i < len(whole) {
					f.check(t, whole[:i]+string([]byte{byte(b)})+whole[i+1:])
				}
			}
		}
		for _, s := range []string{"١" + f.mark + "5", "１２" + f.mark + "5", "1" + f.mark + "٥", "1٫5", "\ufeff1" + f.mark + "5"} {
			f.check(t, s)
		}
	}
}

// P1.1: as many digits as may be and one more, ahead and behind, and leading noughts.
func TestParseOfManyDigits(t *testing.T) {
	for _, f := range families {
		for _, digit := range []string{"0", "1", "8", "9"} {
			for _, noughts := range []int{0, 1, 18, 300} {
				for ahead := range 22 {
					for behind := range 22 {
						s := strings.Repeat("0", noughts) + strings.Repeat(digit, ahead)
						f.check(t, s)
						f.check(t, s+f.mark+strings.Repeat(digit, behind))
						f.check(t, s+f.mark+strings.Repeat("0", behind))
						f.check(t, "1"+s+f.mark+strings.Repeat("0", behind))
					}
				}
			}
		}
	}
}

// P1.1: no text is too long for an answer, nor for an exact one.
func TestParseOfLongTexts(t *testing.T) {
	noughts, nines := strings.Repeat("0", api.MaxText), strings.Repeat("9", api.MaxText)
	for _, f := range families {
		for _, x := range []struct {
			s string
			n api.Num
			e api.Errno
		}{
			{noughts + "12" + f.mark + "34", api.Num{C: 1234, S: 2}, api.OK},
			{noughts + f.mark + "0", api.Num{S: 1}, api.OK},
			{nines + f.mark + "34", api.Num{}, api.ErrRange},
			{"9" + f.mark + nines, api.Num{}, api.ErrRange},
			{"0" + f.mark + noughts, api.Num{}, api.ErrRange},
			{nines + f.mark + nines + "x", api.Num{}, api.ErrDigits},
		} {
			if n, e := f.parse(x.s); n != x.n || e != x.e {
				t.Errorf("Parse%s of %d bytes: %+v, %v; not %+v, %v", f.name, len(x.s), n, e, x.n, x.e)
			}
		}
	}
}

// P1.2
func TestWriteOfExamples(t *testing.T) {
	for _, x := range []struct {
		n       api.Num
		mt, xml string
	}{
		{api.Num{C: 1250, S: 2}, "12,50", "12.50"},
		{api.Num{C: 7}, "7,", "7"},
		{api.Num{}, "0,", "0"},
		{api.Num{S: 1}, "0,0", "0.0"},
		{api.Num{S: 5}, "0,00000", "0.00000"},
		{api.Num{C: 5, S: 3}, "0,005", "0.005"},
		{api.Num{C: 12345, S: 5}, "0,12345", "0.12345"},
		{api.Num{C: 100000, S: 5}, "1,00000", "1.00000"},
		{api.Num{C: 700}, "700,", "700"},
		{api.Num{C: top}, "999999999999999999,", "999999999999999999"},
		{api.Num{C: top, S: 5}, "9999999999999,99999", "9999999999999.99999"},
	} {
		mt, e := decimal.MT(x.n)
		xml, f := decimal.XML(x.n)
		if mt != x.mt || e != api.OK || xml != x.xml || f != api.OK {
			t.Errorf("%+v: %q, %v; %q, %v", x.n, mt, e, xml, f)
		}
	}
}

// P1.2: the text of every good number that is not negative, and of every other one none.
func TestWrite(t *testing.T) {
	for _, f := range families {
		for _, n := range goods() {
			ten := tens(n.S).Int64()
			want, wantE := fmt.Sprintf("%d%s%0*d", n.C/ten, f.mark, n.S, n.C%ten), api.OK
			if n.S == 0 {
				want = fmt.Sprint(n.C) + f.mark
			}
			if n.S == 0 && f.name == "XML" {
				want = fmt.Sprint(n.C)
			}
			if n.Neg {
				want, wantE = "", api.ErrArg
			}
			if s, e := f.write(n); s != want || e != wantE {
				t.Errorf("%s(%+v): %q, %v; not %q, %v", f.name, n, s, e, want, wantE)
			}
		}
		for _, n := range bads() {
			if s, e := f.write(n); s != "" || e != api.ErrArg {
				t.Errorf("%s(%+v): %q, %v", f.name, n, s, e)
			}
		}
	}
}

// P1.4: texts of a number are read as it.
func TestNumbersAreReadAgain(t *testing.T) {
	for _, f := range families {
		for _, n := range goods() {
			if n.Neg {
				continue
			}
			s, e := f.write(n)
			if back, g := f.parse(s); e != api.OK || g != api.OK || back != n {
				t.Errorf("%s: %+v, %q, %+v", f.name, n, s, back)
			}
		}
	}
}

// P1.4: what is told of a text is worth what its digits say, and is the text again without its leading noughts.
func TestTextsAreWorthTheirDigits(t *testing.T) {
	for _, f := range families {
		for _, ahead := range []string{"0", "00", "7", "0070", "100", "9999999999999"} {
			for _, behind := range []string{"", "0", "5", "05", "50", "00001", "99999"} {
				s := ahead + f.mark + behind
				if behind == "" && f.mark == "." {
					s = ahead
				}
				n, e := f.parse(s)
				said, _ := new(big.Rat).SetString(ahead + "." + behind + "0")
				if e != api.OK || n.Neg || !decimal.Good(n) || worth(n).Cmp(said) != 0 {
					t.Errorf("Parse%s(%q): %+v, %v", f.name, s, n, e)
				}
				plain := strings.TrimLeft(ahead[:len(ahead)-1], "0") + ahead[len(ahead)-1:] + s[len(ahead):]
				if back, e := f.write(n); back != plain || e != api.OK {
					t.Errorf("%s of %q: %q, %v", f.name, s, back, e)
				}
			}
		}
	}
}
