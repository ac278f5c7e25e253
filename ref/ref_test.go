package ref_test

import (
	"fmt"
	"regexp"
	"slices"
	"strings"
	"testing"

	"remitter/api"
	"remitter/ref"
)

const (
	longestReference      = 16
	longestIdentification = 35
)

var (
	ofX    = regexp.MustCompile(`\A[a-zA-Z0-9/\-?:().,'+ ]+\z`)
	ofUETR = regexp.MustCompile(`\A[0-9a-f]{8}-[0-9a-f]{4}-4[0-9a-f]{3}-[89ab][0-9a-f]{3}-[0-9a-f]{12}\z`)
)

// refs are texts that are references, and so identifications.
var refs = []string{
	"REF1", "A/B", "A", "a", "0", "9", " ", "-", ":", "?", "(", ")", ".", ",", "'", "+", "a b", " a", "a ", "NONREF", "NOTPROVIDED", "a/b/c/d/e/f/g/h",
	"A/ /B", "A/-/B", "-/-", " / ", "1/2", "1234567890123456", "AAAAAAAAAAAAAAAA", "AAAAAAA/AAAAAAAA", "A/AAAAAAAAAAAAAA", "AAAAAAAAAAAAAA/A", "/-?:().,'+ aZ09."[1:], "                ", "----------------",
}

// onlyIds are texts that are identifications, but too long for references.
var onlyIds = []string{
	"AAAAAAAAAAAAAAAAA", "12345678901234567", "AAAAAAAAAAAAAAAA/A", "A/AAAAAAAAAAAAAAA", "0123456789ABCDEF ", strings.Repeat("A", 34), strings.Repeat("A", 35), strings.Repeat(" ", 35),
	strings.Repeat("A", 16) + "/" + strings.Repeat("B", 18), "A/" + strings.Repeat("B", 33), strings.Repeat("B", 33) + "/A", strings.Repeat("a/", 17) + "a", "INVOICE 2024-02-29 (1,5 + 2): '?'",
	"eb6305c9-1f7f-49de-aed0-16487c27b42",
}

// none are texts that are neither, and no UETR.
var none = []string{
	"", "/", "//", "///", "/A", "A/", "/A/", "//A", "A//", "A//B", "A///B", "A/B//C", "A/B/", "/A/B", "//A//B//", "A//B/C", "/ ", " /", "/-", "-/", "AAAAAAAAAAAAAAA/", "/AAAAAAAAAAAAAAA", "AAAAAAA//AAAAAAA",
	"/AAAAAAAAAAAAAAAA", "AAAAAAAAAAAAAAAA/", "AAAAAAAAAAAAAAAA//A", strings.Repeat("A", 34) + "/", "/" + strings.Repeat("A", 34), strings.Repeat("A", 17) + "//" + strings.Repeat("A", 16), strings.Repeat("/", 16), strings.Repeat("/", 35),
	"A_B", "A&B", "A=B", "A!B", "A\"B", "A%B", "A*B", "A<B", "A>B", "A;B", "A@B", "A#B", "A{B", "A}B", "A[B", "A]B", "A\\B", "A|B", "A~B", "A^B", "A`B", "A$B", "\t", "A\tB", "\n", "A\n", "\nA", "A\nB", "A\r\nB", "\r", "A\r", "\x00", "A\x00", "\x7f",
	"Ä", "Käse", "A\u00a0B", "é", "Ａ", "٣", "\xff", "A\xff", "\xffA", "\xc3", "K\xc3", "A／B", "A\u2215B", "A\u2013B", "A\u2019B", "A\ufeff", "\ufeffA",
	strings.Repeat("A", 36), strings.Repeat("A", 37), strings.Repeat("A/", 18), strings.Repeat("ä", 8), strings.Repeat("ä", 16), strings.Repeat("ä", 17), strings.Repeat("ä", 35), strings.Repeat("A", api.MaxText), strings.Repeat("A", api.MaxText+1), strings.Repeat("/", api.MaxText+1), strings.Repeat("\xff", api.MaxText+1),
}

// uetrs are UETRs.
var uetrs = []string{
	"00000000-0000-4000-8000-000000000000", "eb6305c9-1f7f-49de-aed0-16487c27b42d", "ffffffff-ffff-4fff-bfff-ffffffffffff", "01234567-89ab-4def-9012-3456789abcde", "97ed4827-7b6f-4491-a06f-b548d5a7512d",
	"aaaaaaaa-aaaa-4aaa-aaaa-aaaaaaaaaaaa", "11111111-1111-4111-8111-111111111111", "99999999-9999-4999-9999-999999999999", "44444444-4444-4444-8444-444444444444", "88888888-8888-4888-8888-888888888888", "bbbbbbbb-bbbb-4bbb-bbbb-bbbbbbbbbbbb",
}

// noUETR are texts that are no UETR, though most of one stands in them.
var noUETR = []string{
	"eb6305c9-1f7f-09de-aed0-16487c27b42d", "eb6305c9-1f7f-19de-aed0-16487c27b42d", "eb6305c9-1f7f-39de-aed0-16487c27b42d", "eb6305c9-1f7f-59de-aed0-16487c27b42d", "eb6305c9-1f7f-79de-aed0-16487c27b42d", "eb6305c9-1f7f-a9de-aed0-16487c27b42d",
	"eb6305c9-1f7f-49de-0ed0-16487c27b42d", "eb6305c9-1f7f-49de-4ed0-16487c27b42d", "eb6305c9-1f7f-49de-7ed0-16487c27b42d", "eb6305c9-1f7f-49de-ced0-16487c27b42d", "eb6305c9-1f7f-49de-ded0-16487c27b42d", "eb6305c9-1f7f-49de-fed0-16487c27b42d", "eb6305c9-1f7f-49de-Aed0-16487c27b42d", "eb6305c9-1f7f-49de-Bed0-16487c27b42d",
	"EB6305C9-1f7f-49de-aed0-16487c27b42d", "EB6305C9-1F7F-49DE-AED0-16487C27B42D", "eb6305c9-1f7f-49de-aed0-16487c27b42D", "gb6305c9-1f7f-49de-aed0-16487c27b42d", "eb6305c9-1f7f-49de-aed0-16487c27b42g", "eb6305c9-1f7f-49de-aed0-16487c27b42/", "eb6305c9-1f7f-49de-aed0-16487c27b42:", "eb6305c9-1f7f-49de-aed0-16487c27b42`",
	"eb6305c9-1f7f-49de-aed0-16487c27b42", "eb6305c9-1f7f-49de-aed0-16487c27b42d0", "0eb6305c9-1f7f-49de-aed0-16487c27b42d", "b6305c9-1f7f-49de-aed0-16487c27b42d", "eb6305c9-1f7f-49de-aed0", "eb6305c9-1f7f-49de-aed0-", "eb6305c9",
	"eb6305c91f7f49deaed016487c27b42d", "eb6305c901f7f-49de-aed0-16487c27b42d", "eb6305c9-1f7f049de-aed0-16487c27b42d", "eb6305c9-1f7f-49de0aed0-16487c27b42d", "eb6305c9-1f7f-49de-aed0016487c27b42d", "eb6305c9_1f7f_49de_aed0_16487c27b42d", "eb6305c9 1f7f 49de aed0 16487c27b42d", "eb6305c9+1f7f+49de+aed0+16487c27b42d",
	"eb6305c91-f7f-49de-aed0-16487c27b42d", "eb6305c-91f7f-49de-aed0-16487c27b42d", "eb6305c9-1f7-f49de-aed0-16487c27b42d", "eb6305c9-1f7f-49d-eaed0-16487c27b42d", "eb6305c9-1f7f-49de-aed-016487c27b42d", "eb6305c9-1f7f-49de-aed0-16487c27b4-d", "-b6305c9-1f7f-49de-aed0-16487c27b42d", "eb6305c9-1f7f-49de-aed0-16487c27b42-", "eb6305c9--f7f-49de-aed0-16487c27b42d",
	" eb6305c9-1f7f-49de-aed0-16487c27b42d", "eb6305c9-1f7f-49de-aed0-16487c27b42d ", "eb6305c9-1f7f-49de-aed0-16487c27b42d\n", "\neb6305c9-1f7f-49de-aed0-16487c27b42d", "eb6305c9-1f7f-49de-aed0-16487c27b42\n", " b6305c9-1f7f-49de-aed0-16487c27b42d", "eb6305c9-1f7f-49de-aed0-16487c27b42 ", "{eb6305c9-1f7f-49de-aed0-16487c27b42d}", "urn:uuid:eb6305c9-1f7f-49de-aed0-16487c27b42d",
	"eb6305c9\u20131f7f-49de-aed0-16487c27b42d", "eb6305c9\u20131f7f-49de-aed0-16487c27b4", "eb6305c9-1f7f-49de-aed0-16487c27b42２", "eb6305c9-1f7f-49de-aed0-16487c27b2", "00000000-0000-0000-0000-000000000000", "ffffffff-ffff-ffff-ffff-ffffffffffff",
	strings.Repeat("0", 36), strings.Repeat("-", 36), strings.Repeat("4", 36), strings.Repeat("8", 36), strings.Repeat("\x00", 36), strings.Repeat("\xff", 36), strings.Repeat("eb6305c9-1f7f-49de-aed0-16487c27b42d", 1000), strings.Repeat("a", api.MaxText+1),
}

// numbers are numbers at the edges, and some with other digits at every place.
var numbers = []uint64{0, 1, 9, 10, 15, 16, 255, 256, 0xfff, 0x1000, 0xffff, 0x10000, 1<<31 - 1, 1 << 31, 1<<32 - 1, 1 << 32, 1<<48 - 1, 1 << 48, 1<<63 - 1, 1 << 63, 1<<64 - 2, 1<<64 - 1, 0x123456789abcdef0, 0xfedcba9876543210, 0x8888444488884444, 0xaaaaaaaaaaaaaaaa, 12345678901234567890, 10000000000000000000}

// answer is OK, or the chapter's one error.
func answer(is bool) api.Errno {
	if is {
		return api.OK
	}
	return api.ErrRef
}

// named tells whether a text is a reference, if the longest has so many characters; or an identification, likewise.
func named(s string, longest int) bool {
	return len(s) <= longest && ofX.MatchString(s) && !slices.Contains(strings.Split(s, "/"), "")
}

// hold holds all that the package tells of a text against what the chapter says of it.
func hold(t *testing.T, s string) {
	t.Helper()
	if e, want := ref.Check(s), answer(named(s, longestReference)); e != want {
		t.Errorf("Check of %d bytes, %.40q: %v; not %v", len(s), s, e, want)
	}
	if e, want := ref.CheckId(s), answer(named(s, longestIdentification)); e != want {
		t.Errorf("CheckId of %d bytes, %.40q: %v; not %v", len(s), s, e, want)
	}
	if e, want := ref.CheckUETR(s), answer(ofUETR.MatchString(s)); e != want {
		t.Errorf("CheckUETR of %d bytes, %.40q: %v; not %v", len(s), s, e, want)
	}
}

// P7.1: what is a reference, an identification, a UETR.
func TestOfRight(t *testing.T) {
	for _, s := range refs {
		if e := ref.Check(s); e != api.OK {
			t.Errorf("Check(%q): %v", s, e)
		}
	}
	for _, s := range slices.Concat(refs, onlyIds) {
		if e := ref.CheckId(s); e != api.OK {
			t.Errorf("CheckId(%q): %v", s, e)
		}
		if e := ref.CheckUETR(s); e != api.ErrRef {
			t.Errorf("CheckUETR(%q): %v", s, e)
		}
		hold(t, s)
	}
	for _, s := range uetrs {
		if e := ref.CheckUETR(s); e != api.OK {
			t.Errorf("CheckUETR(%q): %v", s, e)
		}
		hold(t, s)
	}
}

// P7.1: what is none.
func TestOfWrong(t *testing.T) {
	for _, s := range slices.Concat(none, onlyIds, uetrs) {
		if e := ref.Check(s); e != api.ErrRef {
			t.Errorf("Check of %d bytes, %.40q: %v", len(s), s, e)
		}
		hold(t, s)
	}
	for _, s := range slices.Concat(none, uetrs) {
		if e := ref.CheckId(s); e != api.ErrRef {
			t.Errorf("CheckId of %d bytes, %.40q: %v", len(s), s, e)
		}
	}
	for _, s := range slices.Concat(none, noUETR) {
		if e := ref.CheckUETR(s); e != api.ErrRef {
			t.Errorf("CheckUETR of %d bytes, %.40q: %v", len(s), s, e)
		}
		hold(t, s)
	}
}

// P7.1: every length, with slashes at every place, and at every two.
func TestOfAllSlashes(t *testing.T) {
	for length := range 40 {
		s := []byte(strings.Repeat("a", length))
		hold(t, string(s))
		for one := range length {
			for other := range length {
				s[one], s[other] = '/', '/'
				hold(t, string(s))
				s[one], s[other] = 'a', 'a'
			}
		}
	}
}

// P7.1: every text of a few characters, and of a few more behind and ahead of them.
func TestOfAllShort(t *testing.T) {
	texts := []string{""}
	for from := 0; len(texts) < 5000; {
		to := len(texts)
		for ; from < to; from++ {
			for _, c := range []string{"/", "A", " ", "-", "_", "ä"} {
				texts = append(texts, texts[from]+c)
			}
		}
	}
	for _, s := range texts {
		hold(t, s)
		hold(t, strings.Repeat("B", 12)+s)
		hold(t, s+strings.Repeat("B", 31))
	}
}

// P7.1: every byte at every place, one too few and one too many.
func TestOfAllBytes(t *testing.T) {
	for _, s := range slices.Concat(uetrs, []string{"A", "REF1", "A/B/C", "AAAAAAAAAAAAAAA", "AAAAAAAAAAAAAAAA", "AAAAAAA/AAAAAAAA", strings.Repeat("A", 34), strings.Repeat("A", 35), strings.Repeat("a/", 17) + "a"}) {
		for at := range len(s) {
			hold(t, s[:at]+s[at+1:])
			for b := range 256 {
				hold(t, s[:at]+string([]byte{byte(b)})+s[at+1:])
				hold(t, s[:at]+string([]byte{byte(b)})+s[at:])
			}
		}
		for b := range 256 {
			hold(t, s+string([]byte{byte(b)}))
		}
	}
}

// P7.2: the examples, and where each digit stands.
func TestMake(t *testing.T) {
	for n, want := range map[uint64]string{
		0:                  "00000000-0000-4000-8000-000000000000",
		1:                  "00000000-0000-4000-8100-000000000000",
		0xf:                "00000000-0000-4000-8f00-000000000000",
		0x10:               "00000000-0000-4001-8000-000000000000",
		0xfff0:             "00000000-0000-4fff-8000-000000000000",
		0x10000:            "00000000-0001-4000-8000-000000000000",
		0xffff0000:         "00000000-ffff-4000-8000-000000000000",
		0x100000000:        "00000001-0000-4000-8000-000000000000",
		0x1000000000000000: "10000000-0000-4000-8000-000000000000",
		0x123456789abcdef0: "12345678-9abc-4def-8000-000000000000",
		0x0fedcba987654321: "0fedcba9-8765-4432-8100-000000000000",
		1 << 63:            "80000000-0000-4000-8000-000000000000",
		1<<64 - 1:          "ffffffff-ffff-4fff-8f00-000000000000",
	} {
		if s := ref.Make(n); s != want {
			t.Errorf("Make(%#x): %q; not %q", n, s, want)
		}
	}
}

// made is what P7.2 says of Make.
func made(n uint64) string {
	return fmt.Sprintf("%08x-%04x-4%03x-8%x00-000000000000", n>>32, n>>16&0xffff, n>>4&0xfff, n&0xf)
}

// holdMade holds what Make tells of a number against what the chapter says of it, and against the number itself: so no other one has it.
func holdMade(t *testing.T, n uint64) {
	t.Helper()
	s := ref.Make(n)
	if s != made(n) || ref.CheckUETR(s) != api.OK {
		t.Errorf("Make(%#x): %q, %v; not %q", n, s, ref.CheckUETR(s), made(n))
		return
	}
	var back uint64
	if _, e := fmt.Sscanf(s[:8]+s[9:13]+s[15:18]+s[20:21], "%x", &back); e != nil || back != n {
		t.Errorf("Make(%#x): %q, which is of %#x", n, s, back)
	}
}

// P7.2, P7.3: every digit at every place, and what is made is a UETR, and tells its number.
func TestOfAllNumbers(t *testing.T) {
	for _, n := range numbers {
		holdMade(t, n)
		for place := 0; place < 64; place += 4 {
			for digit := range uint64(16) {
				holdMade(t, n&^(0xf<<place)|digit<<place)
			}
		}
		for bit := range 64 {
			holdMade(t, n^1<<bit)
		}
	}
	for n := range uint64(1 << 17) {
		holdMade(t, n)
		holdMade(t, n*0x9e3779b97f4a7c15)
	}
}

// P7.3: a reference is an identification; no two of many numbers have the same UETR.
func TestFollows(t *testing.T) {
	for _, s := range slices.Concat(refs, onlyIds, none, noUETR, uetrs) {
		for length := range min(len(s), 40) + 1 {
			if part := s[:length]; ref.Check(part) == api.OK && ref.CheckId(part) != api.OK {
				t.Errorf("%q is a reference, and no identification", part)
			}
		}
	}
	of := map[string]uint64{}
	for n := range uint64(1 << 12) {
		for place := 0; place < 64; place += 12 {
			number := n << place
			if other, is := of[ref.Make(number)]; is && other != number {
				t.Errorf("%#x and %#x have one UETR", number, other)
			}
			of[ref.Make(number)] = number
		}
	}
}
