package decimal

import (
	"iter"
	"strconv"
	"strings"

	"remitter/api"
)

// ParseMT reads a number's text of the MT family: the comma must be there.
func ParseMT(s string) (api.Num, api.Errno) {
	ahead, behind, comma := strings.Cut(s, ",")
	if !comma {
		return api.Num{}, api.ErrDigits
	}
	return read(ahead, behind)
}

// ParseXML reads a number's text of XML: a point is there only with digits behind it.
func ParseXML(s string) (api.Num, api.Errno) {
	ahead, behind, point := strings.Cut(s, ".")
	if point && behind == "" {
		return api.Num{}, api.ErrDigits
	}
	return read(ahead, behind)
}

// MT tells a number's text of the MT family.
func MT(n api.Num) (string, api.Errno) {
	return write(n, ",")
}

// XML tells a number's text of XML.
func XML(n api.Num) (string, api.Errno) {
	if n.S == 0 {
		return write(n, "")
	}
	return write(n, ".")
}

// read reads the digits ahead of a mark, and those behind it.
func read(ahead, behind string) (api.Num, api.Errno) {
	if ahead == "" || !allDigits(ahead) || !allDigits(behind) {
		return api.Num{}, api.ErrDigits
	}
	c, fits := coefficient(join(ahead, behind))
	if !fits || len(behind) > api.MaxScale {
		return api.Num{}, api.ErrRange
	}
	return api.Num{C: c, S: len(behind)}, api.OK
}

// write tells a number's digits with a mark ahead of the last S ones.
func write(n api.Num, mark string) (string, api.Errno) {
	if !Good(n) || n.Neg {
		return "", api.ErrArg
	}
	all := strconv.FormatInt(n.C, 10)
	all = join(strings.Repeat("0", max(0, n.S+1-len(all))), all)
	cut := len(all) - n.S
	return join(all[:cut], mark, all[cut:]), api.OK
}

// digits goes through the digits that a text begins with, and their places.
func digits(s string) iter.Seq2[int, int64] {
	return func(yield func(int, int64) bool) {
		for place := range len(s) {
			if s[place] < '0' || s[place] > '9' || !yield(place, int64(s[place]-'0')) {
				return
			}
		}
	}
}

// allDigits tells whether a text is nothing but digits.
func allDigits(s string) bool {
	end := 0
	for place := range digits(s) {
		end = place + 1
	}
	return end == len(s)
}

// coefficient tells what digits say, if it is below MaxCoef.
func coefficient(s string) (int64, bool) {
	c := int64(0)
	for _, digit := range digits(s) {
		// MaxCoef is a multiple of 10: whichever the digit is, only what is below MaxCoef's tenth stays below MaxCoef.
		if c >= api.MaxCoef/10 {
			return 0, false
		}
		c = 10*c + digit
	}
	return c, true
}

// join puts texts together.
func join(texts ...string) string {
	return strings.Join(texts, "")
}
