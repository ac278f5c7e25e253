package date_test

import (
	"fmt"
	"regexp"
	"slices"
	"strconv"
	"strings"
	"testing"
	"time"

	"remitter/api"
	"remitter/date"
)

// last is the number of the last day, 2079-12-31.
const last = 36524

var (
	mtForm     = regexp.MustCompile(`\A([0-9]{2})([0-9]{2})([0-9]{2})\z`)
	xmlForm    = regexp.MustCompile(`\A([0-9]{4})-([0-9]{2})-([0-9]{2})\z`)
	momentForm = regexp.MustCompile(`\A([0-9]{4}-[0-9]{2}-[0-9]{2})T([0-9]{2}):([0-9]{2}):([0-9]{2})\z`)
)

// known is a day by both its texts, and its number.
type known struct {
	mt, xml string
	n       int
}

// examples are days at the edges: of the years, of the century, of months, of leap years.
var examples = []known{
	{"800101", "1980-01-01", 0}, {"800102", "1980-01-02", 1}, {"800131", "1980-01-31", 30}, {"800201", "1980-02-01", 31}, {"800228", "1980-02-28", 58},
	{"800229", "1980-02-29", 59}, {"800301", "1980-03-01", 60}, {"801231", "1980-12-31", 365}, {"810101", "1981-01-01", 366}, {"811231", "1981-12-31", 730},
	{"991231", "1999-12-31", 7304}, {"000101", "2000-01-01", 7305}, {"000229", "2000-02-29", 7364}, {"000301", "2000-03-01", 7365}, {"001231", "2000-12-31", 7670},
	{"010101", "2001-01-01", 7671}, {"240229", "2024-02-29", 16130}, {"240301", "2024-03-01", 16131}, {"790228", "2079-02-28", 36218}, {"790301", "2079-03-01", 36219},
	{"760229", "2076-02-29", 35123}, {"791130", "2079-11-30", 36493}, {"791231", "2079-12-31", last},
}

// noMT are texts that are no day's of the MT family.
var noMT = []string{
	"", "0", "24", "2402", "24022", "2402290", "02402290", "230229", "220229", "210229", "810229", "990229", "010229", "790229", "240230", "240231", "000230",
	"240431", "240631", "240931", "241131", "240132", "240332", "241232", "240100", "240199", "240001", "241301", "249901", "000000", "240000", "999999", "800100", "800001", "791232", "791301",
	"24a101", "a40101", "2401a1", "24010a", "24 101", " 40101", "24010 ", " 240101", "240101 ", "240101\n", "\n240101", "24010\n", "2401\r\n", "+40101", "-40101", "24-101", "2401-1", "2401+1", "24.101",
	"0x0101", "1e0101", "24_101", "24/01/01", "24-01-01", "2024-02-29", "20240229", "29.2.24", "24022\x00", "\x00\x00\x00\x00\x00\x00", "\xff\xff\xff\xff\xff\xff", "//////", "::::::",
	"24022９", "24022٩", "２０", "٢٤٠", "２４０２２９", "٢٤٠٢٢٩", strings.Repeat("240229", 1000), strings.Repeat("1", api.MaxText+1),
}

// noXML are texts that are no day's of XML; none of them is a moment.
var noXML = []string{
	"", "2", "2024", "2024-", "2024-02", "2024-02-2", "2024-02-290", "02024-02-29", "2024-2-29", "2024-1-01", "2024-01-1", "2024-1-1", "2024-001-1", "2024-01-001", "24-02-29", "240229", "20240229", "2024-0229", "202402-29",
	"1979-12-31", "2080-01-01", "1900-01-01", "1880-01-01", "2180-01-01", "0080-01-01", "0000-01-01", "9999-12-31", "1979-01-01", "2080-12-31", "1024-02-29", "3024-02-29", "2100-01-01", "0024-02-29", "8024-02-29",
	"2023-02-29", "2022-02-29", "1981-02-29", "1999-02-29", "2001-02-29", "2079-02-29", "2024-02-30", "2024-04-31", "2024-06-31", "2024-09-31", "2024-11-31", "2024-01-32", "2024-12-32", "2024-01-00", "2024-00-01", "2024-13-01", "2024-00-00", "2024-99-99", "1980-01-00", "2079-12-32",
	"2024/01/01", "2024/01-01", "2024-01/01", "2024.01.01", "2024 01 01", "2024:01:01", "2024-01-0a", "2024-01-a1", "2024-a1-01", "a024-01-01", "2024--1-01", "2024-01--1", "-024-01-01", "+024-01-01", "2024-+1-01", "2024-01-+1", "2024-01- 1", " 2024-01-01", "2024-01-01 ", "2024-01-01\n", "\n2024-01-01", "2024-01-0\n", "2024- 1-01",
	"01-01-2024", "01.01.2024", "2024-01-01Z", "2024-01-01+01:00", "2024-01-01T", "2024\u201301-01", "2024\u201301\u201301", "2024-02-2\x00", "2024-02-2９", "2024-02-2٩", "２０２４-０２-２９",
	strings.Repeat("\x00", 10), strings.Repeat("\xff", 10), strings.Repeat("-", 10), strings.Repeat("0", 10), strings.Repeat("2024-02-29", 1000), strings.Repeat("2", api.MaxText+1),
}

// noMoment are texts that are no moment, though a day's text stands in most.
var noMoment = []string{
	"", "T", "T00:00:00", "00:00:00", "2024-02-29", "2024-02-29T", "2024-02-29T00", "2024-02-29T00:00", "2024-02-29T00:00:", "2024-02-29T00:00:0", "2024-02-29T00:00:000", "2024-02-29T000:00:00", "2024-02-29T00:000:00", "2024-02-29T0:00:00", "2024-02-29T0:00:000", "2024-02-29T00:0:00", "2024-02-29T00:00:0 ",
	"2024-02-29T24:00:00", "2024-02-29T24:00:01", "2024-02-29T25:00:00", "2024-02-29T29:00:00", "2024-02-29T30:00:00", "2024-02-29T99:00:00", "2024-02-29T00:60:00", "2024-02-29T00:61:00", "2024-02-29T00:99:00", "2024-02-29T00:00:60", "2024-02-29T23:59:60", "2024-02-29T00:00:61", "2024-02-29T00:00:99", "2024-02-29T23:60:59", "2024-02-29T24:59:59",
	"2023-02-29T00:00:00", "1979-12-31T23:59:59", "2080-01-01T00:00:00", "2024-00-01T00:00:00", "2024-13-01T00:00:00", "2024-01-00T00:00:00", "2024-04-31T00:00:00", "2024/02/29T00:00:00", "0000-00-00T00:00:00", "24-02-29T00:00:00", "240229T00:00:00", "20240229T00:00:00", "20240229T000000", "2024-02-29T000000",
	"2024-02-29 00:00:00", "2024-02-29t00:00:00", "2024-02-29-00:00:00", "2024-02-29T00-00-00", "2024-02-29T00.00.00", "2024-02-29T00 00 00", "2024-02-29T00:00-00", "2024-02-29T00-00:00", "2024-02-29T00:00:00Z", "2024-02-29T00:00:00.0", "2024-02-29T00:00:00.000", "2024-02-29T00:00:00+01:00", " 2024-02-29T00:00:00", "2024-02-29T00:00:00 ", "2024-02-29T00:00:00\n", "2024-02-29T00:00:0\n", "\n2024-02-29T00:00:00", "2024-02-29T00:00:00\x00",
	"2024-02-29T-1:00:00", "2024-02-29T+1:00:00", "2024-02-29T 1:00:00", "2024-02-29T00:-1:00", "2024-02-29T00:+1:00", "2024-02-29T00: 1:00", "2024-02-29T00:00:-1", "2024-02-29T00:00:+1", "2024-02-29T0a:00:00", "2024-02-29T00:0a:00", "2024-02-29T00:00:0a", "2024-02-29Ta0:00:00", "2024-02-29T00:00: 0",
	"2024-02-29T00:00:0０", "2024-02-29T00:00:0٠", "2024-02-29Ｔ00:00:00", "2024-02-29T00：00:00", strings.Repeat("\x00", 19), strings.Repeat("\xff", 19), strings.Repeat("0", 19), strings.Repeat(":", 19), strings.Repeat("2024-02-29T00:00:00", 1000), strings.Repeat("T", api.MaxText+1),
}

// day is the day of a year, a month and a day of it, if there is one.
func day(year, month, of int) (time.Time, bool) {
	d := time.Date(year, time.Month(month), of, 0, 0, 0, 0, time.UTC)
	return d, d.Year() == year && int(d.Month()) == month && d.Day() == of && year >= 1980 && year <= 2079
}

// numbers are the groups of a form that a text has, but the whole one; all digits.
func numbers(m []string) []int {
	var all []int
	for _, group := range m[1:] {
		n, _ := strconv.Atoi(group)
		all = append(all, n)
	}
	return all
}

// ofMT is the day of a text of the MT family.
func ofMT(s string) (time.Time, bool) {
	m := mtForm.FindStringSubmatch(s)
	if m == nil {
		return time.Time{}, false
	}
	n := numbers(m)
	if n[0] >= 80 {
		return day(1900+n[0], n[1], n[2])
	}
	return day(2000+n[0], n[1], n[2])
}

// ofXML is the day of a text of XML.
func ofXML(s string) (time.Time, bool) {
	m := xmlForm.FindStringSubmatch(s)
	if m == nil {
		return time.Time{}, false
	}
	n := numbers(m)
	return day(n[0], n[1], n[2])
}

// ofMoment tells whether a text is a moment.
func ofMoment(s string) bool {
	m := momentForm.FindStringSubmatch(s)
	if m == nil {
		return false
	}
	n := numbers(m)
	_, is := ofXML(m[1])
	return is && n[1] <= 23 && n[2] <= 59 && n[3] <= 59
}

// answer is OK, or the chapter's one error.
func answer(is bool) api.Errno {
	if is {
		return api.OK
	}
	return api.ErrDate
}

// count is how many days lie between 1980-01-01 and a day.
func count(d time.Time) int {
	return int(d.Sub(time.Date(1980, 1, 1, 0, 0, 0, 0, time.UTC)) / (24 * time.Hour))
}

// nth is the day of a number, and both its texts.
func nth(n int) known {
	d := time.Date(1980, 1, 1+n, 0, 0, 0, 0, time.UTC)
	return known{d.Format("060102"), d.Format("2006-01-02"), n}
}

// holdMT holds what is told of a text as one of the MT family against what the chapter says of it.
func holdMT(t *testing.T, s string) {
	t.Helper()
	d, is := ofMT(s)
	want, wantE := "", answer(is)
	if is {
		want = d.Format("2006-01-02")
	}
	if e := date.CheckMT(s); e != wantE {
		t.Errorf("CheckMT of %d bytes, %.40q: %v; not %v", len(s), s, e, wantE)
	}
	if xml, e := date.ToXML(s); xml != want || e != wantE {
		t.Errorf("ToXML of %d bytes, %.40q: %q, %v; not %q, %v", len(s), s, xml, e, want, wantE)
	}
}

// holdXML holds what is told of a text as one of XML against what the chapter says of it.
func holdXML(t *testing.T, s string) {
	t.Helper()
	d, is := ofXML(s)
	want, wantN, wantE := "", 0, answer(is)
	if is {
		want, wantN = d.Format("060102"), count(d)
	}
	if e := date.CheckXML(s); e != wantE {
		t.Errorf("CheckXML of %d bytes, %.40q: %v; not %v", len(s), s, e, wantE)
	}
	if mt, e := date.ToMT(s); mt != want || e != wantE {
		t.Errorf("ToMT of %d bytes, %.40q: %q, %v; not %q, %v", len(s), s, mt, e, want, wantE)
	}
	if n, e := date.Day(s); n != wantN || e != wantE {
		t.Errorf("Day of %d bytes, %.40q: %d, %v; not %d, %v", len(s), s, n, e, wantN, wantE)
	}
}

// holdMoment holds what is told of a text as a moment against what the chapter says of it.
func holdMoment(t *testing.T, s string) {
	t.Helper()
	if e, want := date.CheckMoment(s), answer(ofMoment(s)); e != want {
		t.Errorf("CheckMoment of %d bytes, %.40q: %v; not %v", len(s), s, e, want)
	}
}

// hold holds all that the package tells of a text against what the chapter says of it.
func hold(t *testing.T, s string) {
	t.Helper()
	holdMT(t, s)
	holdXML(t, s)
	holdMoment(t, s)
}

// P6.1, P6.2
func TestOfExamples(t *testing.T) {
	for _, x := range examples {
		if xml, e := date.ToXML(x.mt); xml != x.xml || e != api.OK {
			t.Errorf("ToXML(%q): %q, %v; not %q", x.mt, xml, e, x.xml)
		}
		if mt, e := date.ToMT(x.xml); mt != x.mt || e != api.OK {
			t.Errorf("ToMT(%q): %q, %v; not %q", x.xml, mt, e, x.mt)
		}
		if e := date.CheckMT(x.mt); e != api.OK {
			t.Errorf("CheckMT(%q): %v", x.mt, e)
		}
		if e := date.CheckXML(x.xml); e != api.OK {
			t.Errorf("CheckXML(%q): %v", x.xml, e)
		}
		if n, e := date.Day(x.xml); n != x.n || e != api.OK {
			t.Errorf("Day(%q): %d, %v; not %d", x.xml, n, e, x.n)
		}
	}
}

// P6.1, P6.2: beside an error there is no text and no number.
func TestOfWrong(t *testing.T) {
	for _, s := range slices.Concat(noMT, noMoment) {
		if e := date.CheckMT(s); e != api.ErrDate {
			t.Errorf("CheckMT of %d bytes, %.40q: %v", len(s), s, e)
		}
		if xml, e := date.ToXML(s); xml != "" || e != api.ErrDate {
			t.Errorf("ToXML of %d bytes, %.40q: %q, %v", len(s), s, xml, e)
		}
	}
	for _, s := range noXML {
		if e := date.CheckXML(s); e != api.ErrDate {
			t.Errorf("CheckXML of %d bytes, %.40q: %v", len(s), s, e)
		}
		if mt, e := date.ToMT(s); mt != "" || e != api.ErrDate {
			t.Errorf("ToMT of %d bytes, %.40q: %q, %v", len(s), s, mt, e)
		}
		if n, e := date.Day(s); n != 0 || e != api.ErrDate {
			t.Errorf("Day of %d bytes, %.40q: %d, %v", len(s), s, n, e)
		}
	}
	for _, s := range slices.Concat(noMoment, noMT, noXML) {
		if e := date.CheckMoment(s); e != api.ErrDate {
			t.Errorf("CheckMoment of %d bytes, %.40q: %v", len(s), s, e)
		}
		hold(t, s)
	}
	for _, x := range examples {
		if date.CheckMT(x.xml) != api.ErrDate || date.CheckXML(x.mt) != api.ErrDate || date.CheckMoment(x.xml) != api.ErrDate || date.CheckXML(x.xml+"T00:00:00") != api.ErrDate {
			t.Errorf("%v: a text of the one kind is one of another", x)
		}
	}
}

// P6.1: every six digits.
func TestOfAllDigits(t *testing.T) {
	is := 0
	for n := range 1000000 {
		s := fmt.Sprintf("%06d", n)
		if date.CheckMT(s) == api.OK {
			is++
		}
		holdMT(t, s)
	}
	if is != last+1 {
		t.Errorf("%d texts are days'", is)
	}
}

// P6.1, P6.2: every year of four digits, and every month and every day of two.
func TestOfAllYears(t *testing.T) {
	for year := range 10000 {
		for _, rest := range []string{"-01-01", "-12-31", "-02-28", "-02-29", "-02-30", "-06-30"} {
			holdXML(t, fmt.Sprintf("%04d", year)+rest)
		}
	}
	for _, year := range []int{1900, 1979, 1980, 1981, 1999, 2000, 2001, 2023, 2024, 2079, 2080, 2100} {
		for rest := range 10000 {
			holdXML(t, fmt.Sprintf("%04d-%02d-%02d", year, rest/100, rest%100))
		}
	}
}

// P6.1: every hour, minute and second of two digits, and every day's text ahead of them.
func TestOfAllMoments(t *testing.T) {
	is := 0
	for n := range 1000000 {
		s := fmt.Sprintf("2024-02-29T%02d:%02d:%02d", n/10000, n/100%100, n%100)
		if date.CheckMoment(s) == api.OK {
			is++
		}
		holdMoment(t, s)
	}
	if is != 24*60*60 {
		t.Errorf("%d texts are moments of a day", is)
	}
	for n := range last + 1 {
		holdMoment(t, nth(n).xml+"T23:59:59")
	}
	for _, s := range noXML {
		holdMoment(t, s+"T00:00:00")
	}
}

// P6.1, P6.2: every byte at every place, one too few and one too many.
func TestOfAllBytes(t *testing.T) {
	for _, s := range []string{"240229", "800101", "791231", "991111", "2024-02-29", "1980-01-01", "2079-12-31", "1999-11-11", "1730-01-01", "2024-02-29T23:59:59", "1980-01-01T00:00:00", "2079-12-31T11:11:11"} {
		for at := range len(s) {
			hold(t, s[:at]+s[at+1:])
			for b := range 256 {
				hold(t, s[:at]+string([]byte{byte(b)})+s[at+1:])
				hold(t, s[:at]+string([]byte{byte(b)})+s[at:])
			}
		}
		for b := range 256 {
			hold(t, s+string([]byte{byte(b)}))
		}
	}
}

// P6.2, P6.3: all numbers from 0 to the last one are days, one behind the other, and a day's texts are each other's.
func TestOfAllDays(t *testing.T) {
	before := ""
	for n := range last + 1 {
		x := nth(n)
		if got, e := date.Day(x.xml); got != n || e != api.OK {
			t.Errorf("Day(%q): %d, %v; not %d", x.xml, got, e, n)
		}
		mt, e := date.ToMT(x.xml)
		if mt != x.mt || e != api.OK {
			t.Errorf("ToMT(%q): %q, %v; not %q", x.xml, mt, e, x.mt)
		}
		if xml, e := date.ToXML(mt); xml != x.xml || e != api.OK {
			t.Errorf("ToXML(%q): %q, %v; not %q", mt, xml, e, x.xml)
		}
		if x.xml <= before {
			t.Errorf("%q does not rise behind %q", x.xml, before)
		}
		before = x.xml
	}
	if before != "2079-12-31" {
		t.Errorf("the last day is %q", before)
	}
}

// P6.3: of any two days the greater text has the greater number.
func TestDaysRise(t *testing.T) {
	for n := 0; n <= last; n += 97 {
		for m := 0; m <= last; m += 1009 {
			a, b := nth(n), nth(m)
			p, _ := date.Day(a.xml)
			q, _ := date.Day(b.xml)
			if strings.Compare(a.xml, b.xml) < 0 != (p < q) || (a.xml == b.xml) != (p == q) {
				t.Errorf("%q is %d, and %q is %d", a.xml, p, b.xml, q)
			}
		}
	}
}
