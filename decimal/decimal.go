// Package decimal is layer 1: decimal numbers, exactly. See shared/doc/01-decimal.md.
package decimal

import (
	"cmp"

	"remitter/api"
)

// beyond is where a coefficient stops growing when its number is brought to a greater scale. Only one number of a pair is brought there: the other one's coefficient stays below MaxCoef, so that it neither reaches beyond nor brings a sum back below MaxCoef from there.
const beyond int64 = 2 * api.MaxCoef

// Good tells whether a number is good.
func Good(n api.Num) bool {
	return n.C >= 0 && n.C < api.MaxCoef && n.S >= 0 && n.S <= api.MaxScale && (n.C != 0 || !n.Neg)
}

// Add tells the sum of two numbers, of the greater one of their scales.
func Add(a, b api.Num) (api.Num, api.Errno) {
	if !Good(a) || !Good(b) {
		return api.Num{}, api.ErrArg
	}
	at := together(a, b)
	return signed(at(a)+at(b), max(a.S, b.S))
}

// Neg tells the number with the other sign; a nought has none.
func Neg(n api.Num) api.Num {
	n.Neg = n.C != 0 && !n.Neg
	return n
}

// Cmp tells how the worths of two good numbers stand: -1, 0 or 1. Numbers that are not good have no worth: of them it tells 0.
func Cmp(a, b api.Num) int {
	if !Good(a) || !Good(b) {
		return 0
	}
	at := together(a, b)
	return cmp.Compare(at(a), at(b))
}

// Least tells the number of least scale that is worth as much; of one that is not good, itself.
func Least(n api.Num) api.Num {
	if !Good(n) {
		return n
	}
	for n.S > 0 && n.C%10 == 0 {
		n.C /= 10
		n.S--
	}
	return n
}

// together answers what brings two good numbers to one scale: a function that tells, of each of them, the coefficient there, with its sign.
func together(a, b api.Num) func(api.Num) int64 {
	scale := max(a.S, b.S)
	return func(n api.Num) int64 {
		c, p := beyond, power(scale-n.S)
		if n.C < beyond/p {
			c = n.C * p
		}
		if n.Neg {
			return -c
		}
		return c
	}
}

// signed is the number of a coefficient with its sign.
func signed(c int64, scale int) (api.Num, api.Errno) {
	n := api.Num{Neg: c < 0, C: max(c, -c), S: scale}
	if n.C >= api.MaxCoef {
		return api.Num{}, api.ErrRange
	}
	return n, api.OK
}

// power is 10 to the power k.
func power(k int) int64 {
	p := int64(1)
	for range k {
		p *= 10
	}
	return p
}
