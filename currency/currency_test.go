package currency_test

import (
	"fmt"
	"math"
	"slices"
	"strings"
	"testing"

	"remitter/api"
	"remitter/currency"
	"remitter/decimal"
)

const top = api.MaxCoef - 1

// known is a currency, and how many digits it has.
type known struct {
	ccy    string
	digits int
}

// sorted are all currencies as the chapter names them, sorted by hand.
var sorted = []known{
	{"AED", 2}, {"AUD", 2}, {"BHD", 3}, {"BIF", 0}, {"BRL", 2}, {"CAD", 2}, {"CHF", 2}, {"CLF", 4}, {"CLP", 0}, {"CNY", 2},
	{"CZK", 2}, {"DJF", 0}, {"DKK", 2}, {"EGP", 2}, {"EUR", 2}, {"GBP", 2}, {"GNF", 0}, {"HKD", 2}, {"HUF", 2}, {"IDR", 2},
	{"ILS", 2}, {"INR", 2}, {"IQD", 3}, {"ISK", 0}, {"JOD", 3}, {"JPY", 0}, {"KES", 2}, {"KMF", 0}, {"KRW", 0}, {"KWD", 3},
	{"LYD", 3}, {"MAD", 2}, {"MXN", 2}, {"MYR", 2}, {"NGN", 2}, {"NOK", 2}, {"NZD", 2}, {"OMR", 3}, {"PHP", 2}, {"PLN", 2},
	{"PYG", 0}, {"QAR", 2}, {"RON", 2}, {"RWF", 0}, {"SAR", 2}, {"SEK", 2}, {"SGD", 2}, {"THB", 2}, {"TND", 3}, {"TRY", 2},
	{"TWD", 2}, {"UAH", 2}, {"UGX", 0}, {"USD", 2}, {"UYW", 4}, {"VND", 0}, {"VUV", 0}, {"XAF", 0}, {"XOF", 0}, {"XPF", 0},
	{"ZAR", 2},
}

// none are texts that are no currency: unknown, of other letters, too short, too long, several at once.
var none = []string{
	"", " ", "X", "XX", "XXX", "AAA", "EU", "UR", "EURO", "EUREUR", "eur", "Eur", "EUr", "EUR ", " EUR", "EUR\n", "EUR\x00", "\x00EUR",
	"EUR,", "EUR GBP", "BIF CLP", "F C", "XPF AED", "ZAR BHD", "ＥＵＲ", "\u0395UR", "EU\u0420", "\xff\xfe\xfd", "978", "DEM", "XAU", "XTS", "BHD,", "0", "2",
	strings.Repeat("EUR", 10000), strings.Repeat("EUR ", 10000),
}

// goods are good numbers that are not negative, of all scales and with many noughts at the end, or none.
func goods() []api.Num {
	var all []api.Num
	for s := range api.MaxScale + 1 {
		for _, c := range []int64{0, 1, 5, 10, 12, 100, 101, 120, 1000, 1200, 1250, 10000, 12345, 100000, 120000, 123450, 1000000, 12345000,
			499999999999999999, 500000000000000000, 999999999999900000, 999999999999990000, 999999999999999000, 999999999999999900, 999999999999999990, top} {
			all = append(all, api.Num{C: c, S: s})
		}
	}
	return all
}

// bads are numbers that are not good, and good ones that are negative.
func bads() []api.Num {
	all := []api.Num{{Neg: true, C: 1}, {Neg: true, C: 1250, S: 2}, {Neg: true, C: top, S: api.MaxScale}, {Neg: true}, {Neg: true, S: 2}}
	for _, neg := range []bool{false, true} {
		for _, c := range []int64{-1, -100, api.MaxCoef, api.MaxCoef + 1, math.MaxInt64, math.MinInt64} {
			all = append(all, api.Num{Neg: neg, C: c}, api.Num{Neg: neg, C: c, S: 2})
		}
		for _, s := range []int{-1, api.MaxScale + 1, 64, math.MaxInt, math.MinInt} {
			all = append(all, api.Num{Neg: neg, S: s}, api.Num{Neg: neg, C: 100, S: s})
		}
	}
	return all
}

// asked is how many digits a good number's least scale asks for.
func asked(n api.Num) int {
	text := fmt.Sprintf("%0*d", n.S+1, n.C)
	return len(strings.TrimRight(text[len(text)-n.S:], "0"))
}

// fits is what P2.2 says of a good number that is not negative.
func fits(n api.Num, digits int) api.Errno {
	if asked(n) > digits {
		return api.ErrCcy
	}
	return api.OK
}

// P2.1
func TestDigits(t *testing.T) {
	for _, k := range sorted {
		if digits, is := currency.Digits(k.ccy); digits != k.digits || !is {
			t.Errorf("Digits(%q): %d, %v; not %d", k.ccy, digits, is, k.digits)
		}
	}
	for _, s := range none {
		if digits, is := currency.Digits(s); digits != 0 || is {
			t.Errorf("Digits(%q): %d, %v", s, digits, is)
		}
	}
}

// P2.1: of all texts of three capital letters, those that the chapter names are currencies.
func TestDigitsOfAllLetters(t *testing.T) {
	at := 0
	for i := range 26 * 26 * 26 {
		s := string([]byte{byte('A' + i/26/26), byte('A' + i/26%26), byte('A' + i%26)})
		want, wantIs := 0, at < len(sorted) && s == sorted[at].ccy
		if wantIs {
			want = sorted[at].digits
			at++
		}
		if digits, is := currency.Digits(s); digits != want || is != wantIs {
			t.Errorf("Digits(%q): %d, %v; not %d, %v", s, digits, is, want, wantIs)
		}
	}
	if at != len(sorted) {
		t.Errorf("%d of the test's own currencies were met", at)
	}
}

// P2.1: a currency with a byte changed, left out or put in is another currency, or none.
func TestDigitsOfNearlyCurrencies(t *testing.T) {
	for _, k := range sorted {
		for i := range len(k.ccy) + 1 {
			if i < len(k.ccy) {
				if _, is := currency.Digits(k.ccy[:i] + k.ccy[i+1:]); is {
					t.Errorf("%q without byte %d", k.ccy, i)
				}
			}
			for _, b := range []byte("\x00 ,;09AZaz\x7f\x80\xff") {
				if s := k.ccy[:i] + string([]byte{b}) + k.ccy[i:]; currencyIs(s) {
					t.Errorf("%q", s)
				}
			}
		}
		if currencyIs(strings.ToLower(k.ccy)) {
			t.Errorf("%q in small letters", k.ccy)
		}
	}
}

func currencyIs(s string) bool {
	_, is := currency.Digits(s)
	return is
}

// P2.1
func TestAll(t *testing.T) {
	var want []string
	for _, k := range sorted {
		want = append(want, k.ccy)
	}
	if got := currency.All(); !slices.Equal(got, want) || !slices.IsSorted(got) {
		t.Errorf("All: %q", got)
	}
}

// P2.1: what the caller does to an answer is seen in no other one.
func TestAllIsNew(t *testing.T) {
	want := currency.All()
	other := currency.All()
	room := other[:cap(other)]
	for i := range room {
		room[i] = "XXX"
	}
	if got := currency.All(); len(want) != len(sorted) || !slices.Equal(got, want) {
		t.Errorf("after writing: %q", got)
	}
	if _, is := currency.Digits("XXX"); is || !currencyIs("EUR") {
		t.Error("after writing: Digits")
	}
}

// P2.2
func TestFitsOfExamples(t *testing.T) {
	for _, x := range []struct {
		n   api.Num
		ccy string
		e   api.Errno
	}{
		{api.Num{C: 1250, S: 2}, "EUR", api.OK},
		{api.Num{C: 125, S: 1}, "EUR", api.OK},
		{api.Num{C: 12500, S: 3}, "EUR", api.OK},
		{api.Num{C: 1250000, S: 5}, "EUR", api.OK},
		{api.Num{C: 12501, S: 3}, "EUR", api.ErrCcy},
		{api.Num{C: 1250001, S: 5}, "EUR", api.ErrCcy},
		{api.Num{C: 12}, "JPY", api.OK},
		{api.Num{C: 1200, S: 2}, "JPY", api.OK},
		{api.Num{C: 125, S: 1}, "JPY", api.ErrCcy},
		{api.Num{C: 1201, S: 2}, "JPY", api.ErrCcy},
		{api.Num{S: 5}, "JPY", api.OK},
		{api.Num{C: 1234, S: 3}, "KWD", api.OK},
		{api.Num{C: 12345, S: 4}, "KWD", api.ErrCcy},
		{api.Num{C: 12345, S: 4}, "CLF", api.OK},
		{api.Num{C: 12345, S: 5}, "CLF", api.ErrCcy},
		{api.Num{C: 123450, S: 5}, "CLF", api.OK},
		{api.Num{C: top}, "JPY", api.OK},
		{api.Num{C: top, S: 2}, "USD", api.OK},
		{api.Num{C: 1}, "XXX", api.ErrCcy},
		{api.Num{}, "", api.ErrCcy},
		{api.Num{Neg: true, C: 1}, "EUR", api.ErrArg},
		{api.Num{Neg: true, C: 1}, "XXX", api.ErrArg},
		{api.Num{Neg: true, C: 12345, S: 5}, "JPY", api.ErrArg},
		{api.Num{Neg: true}, "EUR", api.ErrArg},
		{api.Num{C: -1}, "EUR", api.ErrArg},
		{api.Num{C: api.MaxCoef}, "EUR", api.ErrArg},
		{api.Num{C: 100, S: api.MaxScale + 1}, "EUR", api.ErrArg},
		{api.Num{C: 100, S: -1}, "EUR", api.ErrArg},
	} {
		if e := currency.Fits(x.n, x.ccy); e != x.e {
			t.Errorf("Fits(%+v, %q): %v; not %v", x.n, x.ccy, e, x.e)
		}
	}
}

// P2.2: every currency with good numbers of every scale.
func TestFits(t *testing.T) {
	for _, k := range sorted {
		for _, n := range goods() {
			if e := currency.Fits(n, k.ccy); e != fits(n, k.digits) {
				t.Errorf("Fits(%+v, %q): %v; not %v", n, k.ccy, e, fits(n, k.digits))
			}
		}
	}
}

// P2.2: a number that may not be is told ahead of a currency that is none.
func TestFitsOfWrong(t *testing.T) {
	for _, n := range bads() {
		for _, ccy := range []string{"EUR", "JPY", "KWD", "CLF", "XXX", ""} {
			if e := currency.Fits(n, ccy); e != api.ErrArg {
				t.Errorf("Fits(%+v, %q): %v", n, ccy, e)
			}
		}
	}
	for _, ccy := range none {
		for _, n := range goods() {
			if e := currency.Fits(n, ccy); e != api.ErrCcy {
				t.Errorf("Fits(%+v, %q): %v", n, ccy, e)
			}
		}
	}
}

// family is one of the two forms of an amount's text.
type family struct {
	name   string
	amount func(string, string) (api.Num, api.Errno)
	number func(string) (api.Num, api.Errno)
	write  func(api.Num) (string, api.Errno)
}

var families = []family{
	{"MT", currency.ParseMT, decimal.ParseMT, decimal.MT},
	{"XML", currency.ParseXML, decimal.ParseXML, decimal.XML},
}

// P2.3
func TestParseOfExamples(t *testing.T) {
	for _, x := range []struct {
		parse  func(string, string) (api.Num, api.Errno)
		s, ccy string
		n      api.Num
		e      api.Errno
	}{
		{currency.ParseMT, "12,50", "EUR", api.Num{C: 1250, S: 2}, api.OK},
		{currency.ParseMT, "0012,5", "EUR", api.Num{C: 125, S: 1}, api.OK},
		{currency.ParseMT, "12,5", "JPY", api.Num{}, api.ErrCcy},
		{currency.ParseMT, "12,00", "JPY", api.Num{C: 1200, S: 2}, api.OK},
		{currency.ParseMT, "12,", "JPY", api.Num{C: 12}, api.OK},
		{currency.ParseMT, "0,00000", "JPY", api.Num{S: 5}, api.OK},
		{currency.ParseMT, "1,234", "EUR", api.Num{}, api.ErrCcy},
		{currency.ParseMT, "1,23000", "EUR", api.Num{C: 123000, S: 5}, api.OK},
		{currency.ParseMT, "1,234", "KWD", api.Num{C: 1234, S: 3}, api.OK},
		{currency.ParseMT, "1,2345", "CLF", api.Num{C: 12345, S: 4}, api.OK},
		{currency.ParseMT, "1,23456", "CLF", api.Num{}, api.ErrCcy},
		{currency.ParseMT, "999999999999999999,", "JPY", api.Num{C: top}, api.OK},
		{currency.ParseMT, "1,", "XXX", api.Num{}, api.ErrCcy},
		{currency.ParseMT, "1,", "", api.Num{}, api.ErrCcy},
		{currency.ParseMT, "1", "EUR", api.Num{}, api.ErrDigits},
		{currency.ParseMT, "1", "XXX", api.Num{}, api.ErrDigits},
		{currency.ParseMT, "", "", api.Num{}, api.ErrDigits},
		{currency.ParseMT, "1.5", "EUR", api.Num{}, api.ErrDigits},
		{currency.ParseMT, "-1,", "EUR", api.Num{}, api.ErrDigits},
		{currency.ParseMT, "1,123456", "EUR", api.Num{}, api.ErrRange},
		{currency.ParseMT, "1,000000", "JPY", api.Num{}, api.ErrRange},
		{currency.ParseMT, "1,123456", "XXX", api.Num{}, api.ErrRange},
		{currency.ParseMT, "1000000000000000000,", "EUR", api.Num{}, api.ErrRange},
		{currency.ParseXML, "12.50", "EUR", api.Num{C: 1250, S: 2}, api.OK},
		{currency.ParseXML, "12", "EUR", api.Num{C: 12}, api.OK},
		{currency.ParseXML, "1.5", "JPY", api.Num{}, api.ErrCcy},
		{currency.ParseXML, "1.0", "JPY", api.Num{C: 10, S: 1}, api.OK},
		{currency.ParseXML, "1.234", "BHD", api.Num{C: 1234, S: 3}, api.OK},
		{currency.ParseXML, "1.2345", "BHD", api.Num{}, api.ErrCcy},
		{currency.ParseXML, "1.2345", "UYW", api.Num{C: 12345, S: 4}, api.OK},
		{currency.ParseXML, "1", "eur", api.Num{}, api.ErrCcy},
		{currency.ParseXML, "12.", "EUR", api.Num{}, api.ErrDigits},
		{currency.ParseXML, "12,50", "EUR", api.Num{}, api.ErrDigits},
		{currency.ParseXML, "1e5", "XXX", api.Num{}, api.ErrDigits},
		{currency.ParseXML, "1.123456", "JPY", api.Num{}, api.ErrRange},
		{currency.ParseXML, "1000000000000000000", "XXX", api.Num{}, api.ErrRange},
	} {
		if n, e := x.parse(x.s, x.ccy); n != x.n || e != x.e {
			t.Errorf("%q, %q: %+v, %v; not %+v, %v", x.s, x.ccy, n, e, x.n, x.e)
		}
	}
}

// P2.3: decimal's error, else Fits's, else the number just as it was read.
func TestParse(t *testing.T) {
	for _, f := range families {
		for _, k := range sorted {
			for _, n := range goods() {
				s, _ := f.write(n)
				want, wantE := n, fits(n, k.digits)
				if wantE != api.OK {
					want = api.Num{}
				}
				if got, e := f.amount("00"+s, k.ccy); got != want || e != wantE {
					t.Errorf("Parse%s(%q, %q): %+v, %v; not %+v, %v", f.name, "00"+s, k.ccy, got, e, want, wantE)
				}
			}
		}
	}
}

// P2.3: a text that is no number is told as decimal tells it, whatever the currency is.
func TestParseOfWrong(t *testing.T) {
	texts := []string{"", "1,2,3", "1.2.3", ",5", ".5", "12.", "x", "+1,", "1 ", "1,x", "\x00", "\xff", "١,", "1,1234567", "0,000000", "0.000000",
		strings.Repeat("9", 19), strings.Repeat("9", 19) + ",", strings.Repeat("9", api.MaxText) + ",", strings.Repeat("0", api.MaxText) + "x"}
	for _, f := range families {
		for _, s := range texts {
			_, want := f.number(s)
			if want == api.OK {
				t.Fatalf("%s reads %q", f.name, s)
			}
			for _, ccy := range []string{"EUR", "JPY", "XXX", ""} {
				if n, e := f.amount(s, ccy); n != (api.Num{}) || e != want {
					t.Errorf("Parse%s of %d bytes, %q: %+v, %v; not %v", f.name, len(s), ccy, n, e, want)
				}
			}
		}
		for _, n := range goods() {
			s, _ := f.write(n)
			for _, ccy := range none {
				if got, e := f.amount(s, ccy); got != (api.Num{}) || e != api.ErrCcy {
					t.Errorf("Parse%s(%q, %q): %+v, %v", f.name, s, ccy, got, e)
				}
			}
		}
	}
}

// P2.4: what fits a currency fits each one of no fewer digits.
func TestWhatFitsFitsMoreDigits(t *testing.T) {
	for _, n := range goods() {
		// The most digits that a number does not fit must be fewer than the fewest that it fits.
		refused, taken := -1, api.MaxScale
		for _, ccy := range currency.All() {
			digits, _ := currency.Digits(ccy)
			if currency.Fits(n, ccy) == api.OK {
				taken = min(taken, digits)
			} else {
				refused = max(refused, digits)
			}
		}
		if refused >= taken {
			t.Errorf("%+v fits %d digits, and not %d", n, taken, refused)
		}
	}
}

// P2.4: sums of what fits fit.
func TestSumsOfWhatFitsFit(t *testing.T) {
	sums := 0
	for _, ccy := range []string{"JPY", "EUR", "KWD", "CLF"} {
		var all []api.Num
		for _, n := range goods() {
			if currency.Fits(n, ccy) == api.OK {
				all = append(all, n)
			}
		}
		for _, a := range all {
			for _, b := range all {
				sum, e := decimal.Add(a, b)
				if e != api.OK {
					continue
				}
				sums++
				if e := currency.Fits(sum, ccy); e != api.OK {
					t.Errorf("%+v and %+v of %s: %+v, %v", a, b, ccy, sum, e)
				}
			}
		}
	}
	if sums == 0 {
		t.Error("no sum was taken")
	}
}
