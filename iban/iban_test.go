package iban_test

import (
	"fmt"
	"math/big"
	"regexp"
	"slices"
	"strconv"
	"strings"
	"testing"

	"remitter/api"
	"remitter/iban"
)

// known is a country, and how many letters and digits its IBANs have.
type known struct {
	country string
	length  int
}

// sorted are all countries as the chapter names them, sorted.
var sorted = []known{
	{"AD", 24}, {"AE", 23}, {"AL", 28}, {"AT", 20}, {"AZ", 28}, {"BA", 20}, {"BE", 16}, {"BG", 22}, {"BR", 29}, {"CH", 21},
	{"CY", 28}, {"CZ", 24}, {"DE", 22}, {"DK", 18}, {"DO", 28}, {"EE", 20}, {"ES", 24}, {"FI", 18}, {"FR", 27}, {"GB", 22},
	{"GE", 22}, {"GI", 23}, {"GR", 27}, {"HR", 21}, {"HU", 28}, {"IE", 22}, {"IL", 23}, {"IS", 26}, {"IT", 27}, {"LB", 28},
	{"LI", 21}, {"LT", 20}, {"LU", 20}, {"LV", 21}, {"MC", 27}, {"MD", 24}, {"ME", 22}, {"MK", 19}, {"NL", 18}, {"NO", 15},
	{"PK", 24}, {"PL", 28}, {"PT", 25}, {"RO", 24}, {"RS", 22}, {"SA", 24}, {"SE", 24}, {"SI", 19}, {"SK", 24}, {"SM", 27},
	{"TN", 24}, {"TR", 26},
}

// real are IBANs that stand in print, of many lengths, with letters and without.
var real = []string{
	"GB82WEST12345698765432", "DE89370400440532013000", "NO9386011117947", "BE68539007547034", "FR1420041010050500013M02606", "NL91ABNA0417164300",
	"AT611904300234573201", "CH9300762011623852957", "DK5000400440116243", "ES9121000418450200051332", "FI2112345600000785", "GR1601101250000000012300695",
	"IE29AIBK93115212345678", "IT60X0542811101000000123456", "LU280019400644750000", "PL61109010140000071219812874", "PT50000201231234567890154",
	"SE4550000000058398257466", "MK07250120000058984", "SI56263300012039086", "BR1800360305000010009795493C1", "TR330006100519786457841326", "SM86U0322509800000000270100",
	"AL47212110090000000235698741", "HU42117730161111101800000000", "LB62099900000001001901229114", "AE070331234567890123456", "RS35260005601001611379", "RO49AAAA1B31007593840000",
}

// none are texts that are no IBAN, whatever stands in them.
var none = []string{
	"", " ", "G", "GB", "GB8", "GB82", "XX12", "1234", "gb82WEST12345698765432", "gb82", "GB82west12345698765432", "gB82WEST12345698765432",
	"GB82WEST12345698765433", "GB82WEST1234569876543", "GB82WEST123456987654320", "GB82 WEST 1234 5698 7654 32", " GB82WEST12345698765432", "GB82WEST12345698765432 ",
	"GB82WEST12345698765432\n", "GB82WEST1234569876543\n", "XX82WEST12345698765432", "DE8937040044053201300 ", "DE98370400440532013000", "GBGB82WEST12345698765432",
	"8GB2WEST12345698765432", "82GBWEST12345698765432", "GBWEST1234569876543282", "WEST12345698765432GB82", "GB82WEST12345698765432GB82WEST12345698765432",
	"GB82WEST1234569876543２", "GB82WEST1234569876543٢", "ＧB82WEST12345698765432", "GB82W\xc3\x8bST1234569876543", "GB82WEST12345698765\xff32", "GB82WEST12345-98765432", "GB82WEST+2345698765432",
	strings.Repeat("GB82WEST12345698765432", 5000), strings.Repeat("\x00", 22), strings.Repeat("\xff", 22), "GB" + strings.Repeat("0", api.MaxText),
}

var (
	plain  = regexp.MustCompile(`\A[A-Z0-9]*\z`)
	shaped = regexp.MustCompile(`\A[A-Z]{2}[0-9]{2}[A-Z0-9]*\z`)
)

// length is what P3.1 says of Length.
func length(country string) (int, bool) {
	at := slices.IndexFunc(sorted, func(k known) bool { return k.country == country })
	if at < 0 {
		return 0, false
	}
	return sorted[at].length, true
}

// rest is what P3.1 says of Rest.
func rest(s string) (int, bool) {
	if len(s) < 4 || !plain.MatchString(s) {
		return 0, false
	}
	var digits strings.Builder
	for _, b := range []byte(s[4:] + s[:4]) {
		if b >= 'A' {
			digits.WriteString(strconv.Itoa(int(b-'A') + 10))
		} else {
			digits.WriteByte(b)
		}
	}
	n, _ := new(big.Int).SetString(digits.String(), 10)
	return int(n.Mod(n, big.NewInt(97)).Int64()), true
}

// check is what P3.1 says of Check.
func check(s string) api.Errno {
	if !shaped.MatchString(s) {
		return api.ErrIban
	}
	n, is := length(s[:2])
	r, _ := rest(s)
	if !is || len(s) != n || r != 1 {
		return api.ErrIban
	}
	return api.OK
}

// accounts are texts of letters and digits of a length, some of digits alone, some of letters alone, some of both.
func accounts(n int) []string {
	var all []string
	for seed := range 24 {
		text := make([]byte, n)
		for i := range text {
			letters := "0123456789"
			if seed%3 == 1 {
				letters = "ABCDEFGHIJKLMNOPQRSTUVWXYZ"
			} else if seed%3 == 2 {
				letters = "0123456789ABCDEFGHIJKLMNOPQRSTUVWXYZ"
			}
			text[i] = letters[(seed*seed*31+i*i*7+i*seed*3)%len(letters)]
		}
		all = append(all, string(text))
	}
	return append(all, strings.Repeat("0", n), strings.Repeat("9", n), strings.Repeat("A", n), strings.Repeat("Z", n))
}

// made are IBANs of all countries, put together without Make.
func made() []string {
	var all []string
	for _, k := range sorted {
		for _, account := range accounts(k.length - 4) {
			r, _ := rest(k.country + "00" + account)
			all = append(all, fmt.Sprintf("%s%02d%s", k.country, 98-r, account))
		}
	}
	return all
}

// kind is the letters or the digits that a byte is one of.
func kind(b byte) string {
	if b >= 'A' {
		return "ABCDEFGHIJKLMNOPQRSTUVWXYZ"
	}
	return "0123456789"
}

// P3.1
func TestCheck(t *testing.T) {
	for _, s := range slices.Concat(real, made()) {
		if e := iban.Check(s); e != api.OK {
			t.Errorf("Check(%q): %v", s, e)
		}
	}
	for _, s := range none {
		if e := iban.Check(s); e != api.ErrIban {
			t.Errorf("Check of %d bytes, %.40q: %v", len(s), s, e)
		}
	}
}

// P3.1: the check is any two digits that leave the rest, and no other ones: what is told is the rest, not how the check was made.
func TestCheckOfAllChecks(t *testing.T) {
	twice := 0
	for _, k := range sorted {
		for _, account := range accounts(k.length - 4) {
			right := 0
			for digits := range 100 {
				s := fmt.Sprintf("%s%02d%s", k.country, digits, account)
				want := check(s)
				if want == api.OK {
					right++
				}
				if e := iban.Check(s); e != want {
					t.Errorf("Check(%q): %v; not %v", s, e, want)
				}
			}
			if right == 2 {
				twice++
			}
		}
	}
	for _, s := range []string{"GB00", "GB01", "GB99"} {
		for _, account := range accounts(18) {
			if iban.Check(s+account) != check(s+account) {
				t.Errorf("Check(%q): not %v", s+account, check(s+account))
			}
		}
	}
	if twice == 0 {
		t.Error("no account with two checks was met")
	}
}

// P3.1: a text of the right rest is none, if its country says another length, or there is no such country.
func TestCheckOfAnotherLength(t *testing.T) {
	for i := range 26 * 26 {
		country := string([]byte{byte('A' + i/26), byte('A' + i%26)})
		n, _ := length(country)
		for other := 4; other <= 34; other++ {
			r, _ := rest(country + "00" + strings.Repeat("7", other-4))
			s := fmt.Sprintf("%s%02d%s", country, 98-r, strings.Repeat("7", other-4))
			want := api.ErrIban
			if other == n {
				want = api.OK
			}
			if e := iban.Check(s); e != want {
				t.Errorf("Check(%q): %v; not %v", s, e, want)
			}
		}
	}
}

// P3.1: letters and digits stand where they may, though the rest is right.
func TestCheckOfAnotherShape(t *testing.T) {
	asked := 0
	for _, s := range real {
		for i := range 4 {
			for _, b := range []byte("0123456789ABCDEFGHIJKLMNOPQRSTUVWXYZ") {
				head := []byte(s[:4])
				head[i] = b
				for digit := range 10 {
					// A digit within the account brings the rest back to 1, where it can.
					text := string(head) + strconv.Itoa(digit) + s[5:]
					if r, _ := rest(text); r == 1 && !shaped.MatchString(text) {
						asked++
						if e := iban.Check(text); e != api.ErrIban {
							t.Errorf("Check(%q): %v", text, e)
						}
					}
				}
			}
		}
	}
	if asked == 0 {
		t.Error("no text was asked")
	}
}

// P3.1: every byte that is no letter A to Z and no digit, at every place.
func TestCheckOfOtherBytes(t *testing.T) {
	for _, s := range real {
		for i := range len(s) {
			for b := range 256 {
				if plain.MatchString(string([]byte{byte(b)})) {
					continue
				}
				text := s[:i] + string([]byte{byte(b)}) + s[i+1:]
				if e := iban.Check(text); e != api.ErrIban {
					t.Errorf("Check(%q): %v", text, e)
				}
				if r, is := iban.Rest(text); r != 0 || is {
					t.Errorf("Rest(%q): %d, %v", text, r, is)
				}
			}
		}
	}
}

// P3.1
func TestRestOfExamples(t *testing.T) {
	for _, x := range []struct {
		s    string
		rest int
		is   bool
	}{
		{"GB82WEST12345698765432", 1, true},
		{"GB00WEST12345698765432", 16, true},
		{"0000", 0, true},
		{"0001", 1, true},
		{"0096", 96, true},
		{"0097", 0, true},
		{"0098", 1, true},
		{"000A", 10, true},
		{"000Z", 35, true},
		{"00A0", 3, true},
		{"AAAA", 10101010 % 97, true},
		{"ZZZZ", 35353535 % 97, true},
		{"00001", 10000 % 97, true},
		{"00120", 12, true},
		{"0000A", 100000 % 97, true},
		{"XX12", 333312 % 97, true},
		{"9999", 9999 % 97, true},
		{"", 0, false},
		{"0", 0, false},
		{"GB8", 0, false},
		{"ZZZ", 0, false},
		{"gb82", 0, false},
		{"GB82west", 0, false},
		{"GB 2", 0, false},
		{"GB82 ", 0, false},
		{"00-1", 0, false},
		{"+001", 0, false},
		{"00.1", 0, false},
		{"٠٠٠١", 0, false},
		{"００", 0, false},
		{"ÄÄ", 0, false},
		{"ABC\x00", 0, false},
		{"\xff\xff\xff\xff", 0, false},
		{"////", 0, false},
		{"::::", 0, false},
		{"@@@@", 0, false},
		{"[[[[", 0, false},
		{"`{|}", 0, false},
	} {
		if r, is := iban.Rest(x.s); r != x.rest || is != x.is {
			t.Errorf("Rest(%q): %d, %v; not %d, %v", x.s, r, is, x.rest, x.is)
		}
	}
}

// P3.1: a rest is of any text of letters and digits, an IBAN or not, however long.
func TestRest(t *testing.T) {
	texts := slices.Concat(real, made(), none)
	for n := range 80 {
		texts = append(texts, accounts(n)...)
	}
	texts = append(texts, strings.Repeat("Z9A0", 5000))
	for _, s := range texts {
		want, wantIs := rest(s)
		if r, is := iban.Rest(s); r != want || is != wantIs {
			t.Errorf("Rest of %d bytes, %.40q: %d, %v; not %d, %v", len(s), s, r, is, want, wantIs)
		}
	}
}

// P3.1
func TestLength(t *testing.T) {
	met := 0
	for i := range 26 * 26 {
		country := string([]byte{byte('A' + i/26), byte('A' + i%26)})
		want, wantIs := length(country)
		if wantIs {
			met++
		}
		if n, is := iban.Length(country); n != want || is != wantIs {
			t.Errorf("Length(%q): %d, %v; not %d, %v", country, n, is, want, wantIs)
		}
	}
	if met != len(sorted) {
		t.Errorf("%d of the test's own countries were met", met)
	}
	for _, s := range []string{"", "G", "gb", "Gb", "gB", "GBR", "GB8", " GB", "GB ", "GB\x00", "\x00\x00", "\xff\xff", "GBDE", "NO 15", "ＧＢ", "Ä", "XX", "00", strings.Repeat("GB", 100000)} {
		if n, is := iban.Length(s); n != 0 || is {
			t.Errorf("Length of %d bytes, %.20q: %d, %v", len(s), s, n, is)
		}
	}
}

// P3.2, P3.3: what is made is one, and is what its country and its rest say.
func TestMake(t *testing.T) {
	checks := map[string]bool{}
	for _, s := range slices.Concat(real, made()) {
		m, e := iban.Make(s[:2], s[4:])
		if m != s || e != api.OK {
			t.Errorf("Make(%q, %q): %q, %v; not %q", s[:2], s[4:], m, e, s)
		}
		if e := iban.Check(m); e != api.OK {
			t.Errorf("Check(%q): %v", m, e)
		}
		checks[s[2:4]] = true
	}
	for digits := 2; digits <= 98; digits++ {
		if !checks[fmt.Sprintf("%02d", digits)] {
			t.Errorf("no IBAN with the check %02d was made", digits)
		}
	}
}

// P3.2
func TestMakeOfWrong(t *testing.T) {
	for _, x := range []struct{ country, rest string }{
		{"", ""}, {"GB", ""}, {"", "WEST12345698765432"}, {"gb", "WEST12345698765432"}, {"GB", "west12345698765432"}, {"XX", "WEST12345698765432"},
		{"GBR", "WEST12345698765432"}, {"GB8", "WEST12345698765432"}, {"GB82", "WEST12345698765432"}, {"G", "BWEST12345698765432"}, {"GB ", "WEST1234569876543"},
		{"GB", "WEST1234569876543"}, {"GB", "WEST123456987654321"}, {"GB", "82WEST12345698765432"}, {"GB", "GB82WEST12345698765432"}, {"DE", "1"},
		{"GB", "WEST1234569876543 "}, {"GB", " WEST1234569876543"}, {"GB", "WEST 2345698765432"}, {"GB", "WEST-2345698765432"}, {"GB", "WEST1234569876543\n"},
		{"GB", "WEST1234569876543\x00"}, {"GB", "WEST123456987654\xc3\x84"}, {"GB", "WEST12345698765432Ä"}, {"GB", "WEST123456987654٣"}, {"GB", strings.Repeat("Ä", 18)},
		{"GB", strings.Repeat("\xff", 18)}, {"GB", strings.Repeat("1", api.MaxText)}, {strings.Repeat("GB", 10000), strings.Repeat("1", 18)},
	} {
		if s, e := iban.Make(x.country, x.rest); s != "" || e != api.ErrIban {
			t.Errorf("Make(%.20q, %.40q): %q, %v", x.country, x.rest, s, e)
		}
	}
	for i := range 26 * 26 {
		country := string([]byte{byte('A' + i/26), byte('A' + i%26)})
		n, _ := length(country)
		for other := range 40 {
			s, e := iban.Make(country, strings.Repeat("5", other))
			if (e == api.OK) != (other+4 == n) || e != api.OK && (e != api.ErrIban || s != "") {
				t.Errorf("Make(%q, %d fives): %q, %v", country, other, s, e)
			}
		}
	}
}

// P3.2: every byte that is no letter A to Z and no digit, at every place.
func TestMakeOfOtherBytes(t *testing.T) {
	for _, s := range real {
		for i := range len(s) - 4 {
			for b := range 256 {
				if plain.MatchString(string([]byte{byte(b)})) {
					continue
				}
				text := s[4:4+i] + string([]byte{byte(b)}) + s[5+i:]
				if m, e := iban.Make(s[:2], text); m != "" || e != api.ErrIban {
					t.Errorf("Make(%q, %q): %q, %v", s[:2], text, m, e)
				}
			}
		}
	}
}

// P3.3: with one letter or digit changed for another one of its kind it is none.
func TestOneChanged(t *testing.T) {
	for _, s := range slices.Concat(real, made()) {
		for i := range len(s) {
			for _, b := range []byte(kind(s[i])) {
				text := s[:i] + string([]byte{b}) + s[i+1:]
				if e := iban.Check(text); b != s[i] && e != api.ErrIban {
					t.Errorf("%q with place %d changed: Check(%q): %v", s, i, text, e)
				}
			}
		}
	}
}

// P3.3: with two neighbours, unlike digits both, changed with one another behind the first four it is none.
func TestNeighboursChanged(t *testing.T) {
	changed := 0
	for _, s := range slices.Concat(real, made()) {
		for i := 4; i+1 < len(s); i++ {
			if s[i] >= 'A' || s[i+1] >= 'A' || s[i] == s[i+1] {
				continue
			}
			changed++
			text := s[:i] + string([]byte{s[i+1], s[i]}) + s[i+2:]
			if e := iban.Check(text); e != api.ErrIban {
				t.Errorf("%q with places %d and %d changed: Check(%q): %v", s, i, i+1, text, e)
			}
		}
	}
	if changed == 0 {
		t.Error("no neighbours were changed")
	}
}
