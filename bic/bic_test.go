package bic_test

import (
	"regexp"
	"slices"
	"strings"
	"testing"

	"remitter/api"
	"remitter/bic"
)

const (
	letters = "ABCDEFGHIJKLMNOPQRSTUVWXYZ"
	plain   = letters + "0123456789"
)

var (
	bicForm     = regexp.MustCompile(`\A([A-Z0-9]{4}[A-Z]{2}[A-Z0-9]{2})([A-Z0-9]{3})?\z`)
	addressForm = regexp.MustCompile(`\A([A-Z0-9]{4}[A-Z]{2}[A-Z0-9]{2})[A-Z0-9]([A-Z0-9]{3})\z`)
)

// bics are BICs of both lengths; some of them have the branch XXX, and some a branch that is nearly that.
var bics = []string{
	"DEUTDEFF", "DEUTDEFFXXX", "DEUTDEFF500", "BANKBEBB", "BANKBEBBXXX", "BANKBEBB001", "A1B2GB33", "A1B2GB33XXX", "A1B2GB33A1B", "0000AA00", "0000AA00000",
	"9999ZZ99", "9999ZZ99999", "AAAAAAAA", "AAAAAAAAAAA", "ZZZZZZZZ", "ZZZZZZZZZZZ", "XXXXXXXX", "XXXXXXXXXXX", "XXXXXXXXXXA", "XXXXXXXXAXX", "XXXXXXXXXAX",
	"CHASUS33", "CHASUS33XX1", "CHASUS33X1X", "CHASUS331XX", "CHASUS33XXY", "CHASUS33YXX", "CHASUS33XYX", "CHASUS33WWW", "1234XX56XXX", "1234XX56789",
}

// none are texts that are neither BICs nor addresses, whatever stands in them.
var none = []string{
	"", " ", "X", "XXX", "DEUT", "DEUTDE", "DEUTDEF", "DEUTDEFF5", "DEUTDEFF50", "deutdeff", "DEUTDEFf", "dEUTDEFF", "DEUTdeFF", "DEUTDEFFxxx", "DEUTDEFFXXx",
	"DEUT1EFF", "DEUTD1FF", "DEUT11FF", "DEUT1EFFXXX", "DEUTD1FF500", "DEUT00FFXXXX", "DEUTDEF-", "DEUTDEFF-XX", "DEUT DEFF", " DEUTDEFF", "DEUTDEFF ", "DEUTDEF ",
	"DEUTDEFF   ", "DEUTDEFF    ", "DEUTDEFF\n", "DEUTDEF\n", "DEUTDEFFXX\n", "DEUTDEFFXXX\n", "\nDEUTDEF", "DEUTDEFF\r\n", "DEUTDEFFX\r\n", "DEUTDEF\x00", "DEUTDEFF\x00\x00\x00",
	"DEUTDEFFaXXX", "DEUTDEFF XXX", "DEUTDEFF-XXX", "DEUTDEFFXXxX", "deutdeffxxxx", "DEUTDEFFXXXXX", "DEUTDEFFDEUTDEFF", "DEUTDEFFXXXDEUTDEFFXXX",
	"DEUTDEÄF", "DEUTDEFÄ", "DEUTDEFFÄX", "DEUTDEFF5ÄX", "ÄEUTDEF", "ＤEUTDE", "DEUTD\u212a", "DEUTDEFF\xff\xff\xff", "DEUTDEF\xff", "ÄÄÄÄ", "ÄÄÄÄÄÄ", "ДЕУТ", "ДЕУТДЕ", "٠٠٠٠", "0000AA0٠",
	"@@@@@@@@", "[[[[[[[[", "////////", "::::::::", "````````", "{{{{{{{{{{{", "A@[/:`{Z",
	strings.Repeat("\x00", 8), strings.Repeat("\xff", 11), strings.Repeat("\xff", 12), strings.Repeat("DEUTDEFF", api.MaxText/8), strings.Repeat("A", api.MaxText+1),
}

// check is what P4.1 says of Check, and of CheckAddress.
func check(form *regexp.Regexp, s string) api.Errno {
	if !form.MatchString(s) {
		return api.ErrBic
	}
	return api.OK
}

// full, short, address and of are what P4.2 says.
func full(s string) (string, api.Errno) {
	m := bicForm.FindStringSubmatch(s)
	if m == nil {
		return "", api.ErrBic
	}
	if m[2] == "" {
		return m[1] + "XXX", api.OK
	}
	return s, api.OK
}

func short(s string) (string, api.Errno) {
	m := bicForm.FindStringSubmatch(s)
	if m == nil {
		return "", api.ErrBic
	}
	if m[2] == "XXX" {
		return m[1], api.OK
	}
	return s, api.OK
}

func address(s string) (string, api.Errno) {
	f, e := full(s)
	if e != api.OK {
		return "", e
	}
	return f[:8] + "X" + f[8:], api.OK
}

func of(s string) (string, api.Errno) {
	m := addressForm.FindStringSubmatch(s)
	if m == nil {
		return "", api.ErrBic
	}
	return short(m[1] + m[2])
}

// one is a call that tells a text of a text, and what the chapter says of it.
type one struct {
	name string
	call func(string) (string, api.Errno)
	want func(string) (string, api.Errno)
}

var ones = []one{
	{"Full", bic.Full, full},
	{"Short", bic.Short, short},
	{"Address", bic.Address, address},
	{"Of", bic.Of, of},
}

// hold holds all that the package tells of a text against what the chapter says of it.
func hold(t *testing.T, s string) {
	t.Helper()
	if e, want := bic.Check(s), check(bicForm, s); e != want {
		t.Errorf("Check of %d bytes, %.40q: %v; not %v", len(s), s, e, want)
	}
	if e, want := bic.CheckAddress(s), check(addressForm, s); e != want {
		t.Errorf("CheckAddress of %d bytes, %.40q: %v; not %v", len(s), s, e, want)
	}
	for _, o := range ones {
		text, e := o.call(s)
		if want, wantE := o.want(s); text != want || e != wantE {
			t.Errorf("%s of %d bytes, %.40q: %q, %v; not %q, %v", o.name, len(s), s, text, e, want, wantE)
		}
	}
}

// addresses are the addresses of the BICs, with every terminal.
func addresses() []string {
	var all []string
	for _, s := range bics {
		f, _ := full(s)
		for _, terminal := range plain {
			all = append(all, f[:8]+string(terminal)+f[8:])
		}
	}
	return all
}

// P4.1
func TestCheck(t *testing.T) {
	for _, s := range bics {
		if e := bic.Check(s); e != api.OK {
			t.Errorf("Check(%q): %v", s, e)
		}
		if e := bic.CheckAddress(s); e != api.ErrBic {
			t.Errorf("CheckAddress(%q): %v", s, e)
		}
	}
	for _, s := range addresses() {
		if e := bic.CheckAddress(s); e != api.OK {
			t.Errorf("CheckAddress(%q): %v", s, e)
		}
		if e := bic.Check(s); e != api.ErrBic {
			t.Errorf("Check(%q): %v", s, e)
		}
	}
	for _, s := range none {
		if e := bic.Check(s); e != api.ErrBic {
			t.Errorf("Check of %d bytes, %.40q: %v", len(s), s, e)
		}
		if e := bic.CheckAddress(s); e != api.ErrBic {
			t.Errorf("CheckAddress of %d bytes, %.40q: %v", len(s), s, e)
		}
	}
}

// P4.1, P4.2: every byte at every place.
func TestOfAllBytes(t *testing.T) {
	for _, s := range slices.Concat(bics, []string{"DEUTDEFFXXXX", "DEUTDEFFA500", "0000AA000000", "ZZZZZZZZZZZZ"}) {
		for i := range len(s) {
			for b := range 256 {
				hold(t, s[:i]+string([]byte{byte(b)})+s[i+1:])
			}
		}
	}
}

// P4.1: only the two places of the country take no digit.
func TestPlacesOfDigits(t *testing.T) {
	for _, s := range []string{"ABCDEFGH", "ABCDEFGHIJK", "ABCDEFGHIJKL"} {
		for i := range len(s) {
			want := api.OK
			if i == 4 || i == 5 {
				want = api.ErrBic
			}
			for digit := '0'; digit <= '9'; digit++ {
				text := s[:i] + string(digit) + s[i+1:]
				e := bic.Check(text)
				if len(s) == 12 {
					e = bic.CheckAddress(text)
				}
				if e != want {
					t.Errorf("%q: %v; not %v", text, e, want)
				}
			}
		}
	}
}

// P4.1, P4.2: of all lengths only 8, 11 and 12 are of something.
func TestOfAllLengths(t *testing.T) {
	for n := range 100 {
		s := strings.Repeat("A", n)
		if e := bic.Check(s); (e == api.OK) != (n == 8 || n == 11) {
			t.Errorf("Check of %d: %v", n, e)
		}
		if e := bic.CheckAddress(s); (e == api.OK) != (n == 12) {
			t.Errorf("CheckAddress of %d: %v", n, e)
		}
		for _, text := range []string{s, strings.Repeat("X", n), strings.Repeat("0", n), strings.Repeat("X", max(n-3, 0)) + "YYY", "DEUTDEFF" + s, "DEUTDEFF" + strings.Repeat("X", n)} {
			hold(t, text)
		}
	}
}

// P4.2
func TestOfExamples(t *testing.T) {
	for _, x := range []struct {
		name string
		call func(string) (string, api.Errno)
		s    string
		want string
	}{
		{"Full", bic.Full, "DEUTDEFF", "DEUTDEFFXXX"},
		{"Full", bic.Full, "DEUTDEFFXXX", "DEUTDEFFXXX"},
		{"Full", bic.Full, "DEUTDEFF500", "DEUTDEFF500"},
		{"Short", bic.Short, "DEUTDEFF", "DEUTDEFF"},
		{"Short", bic.Short, "DEUTDEFFXXX", "DEUTDEFF"},
		{"Short", bic.Short, "DEUTDEFF500", "DEUTDEFF500"},
		{"Short", bic.Short, "DEUTDEFFXX1", "DEUTDEFFXX1"},
		{"Short", bic.Short, "DEUTDEFF1XX", "DEUTDEFF1XX"},
		{"Short", bic.Short, "XXXXXXXXXXX", "XXXXXXXX"},
		{"Short", bic.Short, "XXXXXXXX", "XXXXXXXX"},
		{"Address", bic.Address, "DEUTDEFF", "DEUTDEFFXXXX"},
		{"Address", bic.Address, "DEUTDEFFXXX", "DEUTDEFFXXXX"},
		{"Address", bic.Address, "DEUTDEFF500", "DEUTDEFFX500"},
		{"Of", bic.Of, "DEUTDEFFX500", "DEUTDEFF500"},
		{"Of", bic.Of, "DEUTDEFFA500", "DEUTDEFF500"},
		{"Of", bic.Of, "DEUTDEFFXXXX", "DEUTDEFF"},
		{"Of", bic.Of, "BANKBEBBAXXX", "BANKBEBB"},
		{"Of", bic.Of, "BANKBEBB0XXX", "BANKBEBB"},
		{"Of", bic.Of, "BANKBEBBXXXA", "BANKBEBBXXA"},
		{"Of", bic.Of, "BANKBEBBXAXX", "BANKBEBBAXX"},
	} {
		if s, e := x.call(x.s); s != x.want || e != api.OK {
			t.Errorf("%s(%q): %q, %v; not %q", x.name, x.s, s, e, x.want)
		}
	}
}

// P4.2
func TestOfMany(t *testing.T) {
	for _, s := range slices.Concat(bics, addresses(), none) {
		hold(t, s)
	}
}

// P4.2: beside an error there is no text, and a call of the one is none of the other.
func TestOfWrong(t *testing.T) {
	for _, o := range ones {
		wrong := slices.Concat(none, addresses())
		if o.name == "Of" {
			wrong = slices.Concat(none, bics)
		}
		for _, s := range wrong {
			if text, e := o.call(s); text != "" || e != api.ErrBic {
				t.Errorf("%s of %d bytes, %.40q: %q, %v", o.name, len(s), s, text, e)
			}
		}
	}
}

// after is a call of the one, and of the other one on what that told.
func after(t *testing.T, first, second func(string) (string, api.Errno), s string) string {
	t.Helper()
	between, e := first(s)
	if e != api.OK {
		t.Errorf("%q: %v", s, e)
	}
	text, e := second(between)
	if e != api.OK {
		t.Errorf("%q of %q: %v", between, s, e)
	}
	return text
}

// P4.3: Full and Short are each other's, as far as they go.
func TestFullAndShort(t *testing.T) {
	for _, s := range bics {
		f, _ := bic.Full(s)
		r, _ := bic.Short(s)
		if s != f && s != r {
			t.Errorf("%q is neither %q nor %q", s, f, r)
		}
		for _, of := range []string{s, f, r} {
			if got := after(t, bic.Full, bic.Short, of); got != r {
				t.Errorf("Short of Full(%q): %q; not %q", of, got, r)
			}
			if got := after(t, bic.Short, bic.Full, of); got != f {
				t.Errorf("Full of Short(%q): %q; not %q", of, got, f)
			}
		}
		if len(f) != 11 || bic.Check(f) != api.OK || bic.Check(r) != api.OK {
			t.Errorf("%q: %q, %q", s, f, r)
		}
	}
}

// P4.3: the BIC of an address is the short one of what it was made of.
func TestAddressAndOf(t *testing.T) {
	for _, s := range bics {
		want, _ := bic.Short(s)
		if got := after(t, bic.Address, bic.Of, s); got != want {
			t.Errorf("Of of Address(%q): %q; not %q", s, got, want)
		}
		a, _ := bic.Address(s)
		if e := bic.CheckAddress(a); e != api.OK {
			t.Errorf("CheckAddress(%q): %v", a, e)
		}
	}
	for _, a := range addresses() {
		want := a[:8] + "X" + a[9:]
		if got := after(t, bic.Of, bic.Address, a); got != want {
			t.Errorf("Address of Of(%q): %q; not %q", a, got, want)
		}
	}
}
