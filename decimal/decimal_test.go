package decimal_test

import (
	"fmt"
	"math"
	"math/big"
	"testing"

	"remitter/api"
	"remitter/decimal"
)

const top = api.MaxCoef - 1

// edges are coefficients on both sides of where something changes.
var edges = []int64{
	0, 1, 5, 9, 10, 11, 12, 25, 50, 99, 100, 101, 120, 999, 1000, 1250, 99999, 100000, 100001, 120000, 1000000,
	4611686018427, 9223372036854, 9999999999998, 9999999999999, 10000000000000, 10000000000001, 20000000000000,
	46116860184273879, 92233720368547758, 99999999999999999, 100000000000000000, 100000000000000001,
	499999999999999999, 500000000000000000, 500000000000000001, 999999999999900000, 999999999999999000, 999999999999999990, top - 1, top,
}

// goods are good numbers of all scales and both signs.
func goods() []api.Num {
	var all []api.Num
	for _, c := range edges {
		for s := range api.MaxScale + 1 {
			all = append(all, api.Num{C: c, S: s})
			if c != 0 {
				all = append(all, api.Num{Neg: true, C: c, S: s})
			}
		}
	}
	return all
}

// bads are numbers that are not good, each for another reason, and for several.
func bads() []api.Num {
	all := []api.Num{{Neg: true}, {Neg: true, S: 2}, {Neg: true, S: api.MaxScale}}
	for _, neg := range []bool{false, true} {
		for _, c := range []int64{-1, -10, -top, -api.MaxCoef, api.MaxCoef, api.MaxCoef + 1, 2 * api.MaxCoef, 9 * api.MaxCoef, math.MaxInt64, math.MinInt64, math.MinInt64 + 1} {
			for _, s := range []int{0, 2, api.MaxScale, -1, 6, math.MaxInt, math.MinInt} {
				all = append(all, api.Num{Neg: neg, C: c, S: s})
			}
		}
		for _, c := range []int64{0, 1, 10, 1000, top} {
			for _, s := range []int{-1, -2, -5, api.MaxScale + 1, 18, 64, math.MaxInt, math.MinInt} {
				all = append(all, api.Num{Neg: neg, C: c, S: s})
			}
		}
	}
	return all
}

// worth is what a number is worth.
func worth(n api.Num) *big.Rat {
	r := new(big.Rat).SetFrac(big.NewInt(n.C), tens(n.S))
	if n.Neg {
		r.Neg(r)
	}
	return r
}

func tens(k int) *big.Int {
	return new(big.Int).Exp(big.NewInt(10), big.NewInt(int64(k)), nil)
}

// sum is what P1.3 says of Add, for good numbers.
func sum(a, b api.Num) (api.Num, api.Errno) {
	scale := max(a.S, b.S)
	r := new(big.Rat).Add(worth(a), worth(b))
	r.Mul(r, new(big.Rat).SetInt(tens(scale)))
	c := new(big.Int).Abs(r.Num())
	if c.Cmp(big.NewInt(api.MaxCoef)) >= 0 {
		return api.Num{}, api.ErrRange
	}
	return api.Num{Neg: r.Sign() < 0, C: c.Int64(), S: scale}, api.OK
}

// P1.1
func TestGood(t *testing.T) {
	for _, n := range goods() {
		if !decimal.Good(n) {
			t.Errorf("%+v is good", n)
		}
	}
	for _, n := range bads() {
		if decimal.Good(n) {
			t.Errorf("%+v is not good", n)
		}
	}
}

// P1.3
func TestAddOfExamples(t *testing.T) {
	for _, x := range []struct {
		a, b, want api.Num
		e          api.Errno
	}{
		{api.Num{C: 1}, api.Num{C: 2}, api.Num{C: 3}, api.OK},
		{api.Num{C: 1250, S: 2}, api.Num{C: 5, S: 1}, api.Num{C: 1300, S: 2}, api.OK},
		{api.Num{C: 1}, api.Num{C: 1, S: 5}, api.Num{C: 100001, S: 5}, api.OK},
		{api.Num{C: 1, S: 5}, api.Num{Neg: true, C: 1}, api.Num{Neg: true, C: 99999, S: 5}, api.OK},
		{api.Num{}, api.Num{S: 3}, api.Num{S: 3}, api.OK},
		{api.Num{C: 5}, api.Num{Neg: true, C: 50, S: 1}, api.Num{S: 1}, api.OK},
		{api.Num{Neg: true, C: 5, S: 2}, api.Num{C: 5, S: 2}, api.Num{S: 2}, api.OK},
		{api.Num{C: top}, api.Num{}, api.Num{C: top}, api.OK},
		{api.Num{C: top}, api.Num{C: 1}, api.Num{}, api.ErrRange},
		{api.Num{Neg: true, C: top}, api.Num{Neg: true, C: 1}, api.Num{}, api.ErrRange},
		{api.Num{C: top}, api.Num{S: 1}, api.Num{}, api.ErrRange},
		{api.Num{C: top}, api.Num{Neg: true, C: top, S: 5}, api.Num{}, api.ErrRange},
		{api.Num{C: top}, api.Num{Neg: true, C: top}, api.Num{}, api.OK},
		{api.Num{C: 10000000000000}, api.Num{S: 5}, api.Num{}, api.ErrRange},
		{api.Num{C: 10000000000000}, api.Num{Neg: true, C: 1, S: 5}, api.Num{C: top, S: 5}, api.OK},
		{api.Num{C: 19999999999999}, api.Num{Neg: true, C: top, S: 5}, api.Num{C: 999999999999900001, S: 5}, api.OK},
		{api.Num{C: 20000000000000}, api.Num{Neg: true, C: top, S: 5}, api.Num{}, api.ErrRange},
	} {
		if n, e := decimal.Add(x.a, x.b); n != x.want || e != x.e {
			t.Errorf("Add(%+v, %+v): %+v, %v; not %+v, %v", x.a, x.b, n, e, x.want, x.e)
		}
	}
}

// P1.3, P1.4: sums are exact, and hang on no order.
func TestAddIsExact(t *testing.T) {
	all := goods()
	for _, a := range all {
		for _, b := range all {
			want, wantE := sum(a, b)
			if n, e := decimal.Add(a, b); n != want || e != wantE {
				t.Fatalf("Add(%+v, %+v): %+v, %v; not %+v, %v", a, b, n, e, want, wantE)
			}
		}
	}
}

// P1.3
func TestAddOfWrong(t *testing.T) {
	for _, bad := range bads() {
		for _, n := range []api.Num{{}, {C: 5, S: 2}, {Neg: true, C: top}, bad} {
			for _, pair := range [][2]api.Num{{bad, n}, {n, bad}} {
				if got, e := decimal.Add(pair[0], pair[1]); got != (api.Num{}) || e != api.ErrArg {
					t.Errorf("Add(%+v, %+v): %+v, %v", pair[0], pair[1], got, e)
				}
			}
		}
	}
}

// P1.4: sums of three hang on no order, and what is added and taken away leaves the worth.
func TestSumsHangOnNoOrder(t *testing.T) {
	all := goods()
	for i, a := range all {
		for j := 0; j < len(all); j += 3 {
			b, c := all[j], all[(i+5*j)%len(all)]
			ab, e1 := decimal.Add(a, b)
			bc, e2 := decimal.Add(b, c)
			if e1 == api.OK {
				back, e := decimal.Add(ab, decimal.Neg(b))
				if e == api.OK && decimal.Cmp(back, a) != 0 {
					t.Fatalf("%+v and %+v, less that: %+v", a, b, back)
				}
				if _, fits := sum(ab, decimal.Neg(b)); e != fits {
					t.Fatalf("%+v and %+v, less that: %v", a, b, e)
				}
			}
			if e1 != api.OK || e2 != api.OK {
				continue
			}
			left, e1 := decimal.Add(ab, c)
			right, e2 := decimal.Add(a, bc)
			if left != right || e1 != e2 {
				t.Fatalf("%+v, %+v, %+v: %+v, %v; %+v, %v", a, b, c, left, e1, right, e2)
			}
		}
	}
}

// P1.3
func TestNeg(t *testing.T) {
	for _, x := range []struct{ n, want api.Num }{
		{api.Num{C: 12, S: 1}, api.Num{Neg: true, C: 12, S: 1}},
		{api.Num{Neg: true, C: 12, S: 1}, api.Num{C: 12, S: 1}},
		{api.Num{C: top, S: 5}, api.Num{Neg: true, C: top, S: 5}},
		{api.Num{}, api.Num{}},
		{api.Num{S: 4}, api.Num{S: 4}},
		{api.Num{Neg: true, S: 4}, api.Num{S: 4}},
		{api.Num{Neg: true, C: -3, S: 9}, api.Num{C: -3, S: 9}},
		{api.Num{C: math.MinInt64, S: -9}, api.Num{Neg: true, C: math.MinInt64, S: -9}},
	} {
		if got := decimal.Neg(x.n); got != x.want {
			t.Errorf("Neg(%+v): %+v; not %+v", x.n, got, x.want)
		}
	}
	for _, n := range goods() {
		if got := decimal.Neg(n); !decimal.Good(got) || decimal.Neg(got) != n || got.S != n.S || worth(got).Cmp(new(big.Rat).Neg(worth(n))) != 0 {
			t.Errorf("Neg(%+v): %+v", n, got)
		}
	}
}

// P1.3
func TestCmp(t *testing.T) {
	for _, x := range []struct {
		a, b api.Num
		want int
	}{
		{api.Num{C: 10, S: 1}, api.Num{C: 1}, 0},
		{api.Num{}, api.Num{S: 5}, 0},
		{api.Num{C: 2}, api.Num{C: 19, S: 1}, 1},
		{api.Num{C: 19, S: 1}, api.Num{C: 2}, -1},
		{api.Num{Neg: true, C: 2}, api.Num{Neg: true, C: 19, S: 1}, -1},
		{api.Num{Neg: true, C: 1, S: 5}, api.Num{}, -1},
		{api.Num{C: 1}, api.Num{Neg: true, C: top}, 1},
		{api.Num{C: top}, api.Num{C: top, S: 5}, 1},
		{api.Num{Neg: true, C: top}, api.Num{Neg: true, C: top, S: 5}, -1},
	} {
		if got := decimal.Cmp(x.a, x.b); got != x.want {
			t.Errorf("Cmp(%+v, %+v): %d; not %d", x.a, x.b, got, x.want)
		}
	}
	all := goods()
	for _, a := range all {
		for _, b := range all {
			if got, want := decimal.Cmp(a, b), worth(a).Cmp(worth(b)); got != want {
				t.Fatalf("Cmp(%+v, %+v): %d; not %d", a, b, got, want)
			}
		}
	}
	for _, bad := range bads() {
		if x, y := decimal.Cmp(bad, api.Num{C: 1}), decimal.Cmp(api.Num{C: 1}, bad); x != 0 || y != 0 {
			t.Errorf("Cmp with %+v: %d, %d", bad, x, y)
		}
	}
}

// P1.3
func TestLeast(t *testing.T) {
	for _, x := range []struct{ n, want api.Num }{
		{api.Num{C: 1500, S: 2}, api.Num{C: 15}},
		{api.Num{C: 1500, S: 1}, api.Num{C: 150}},
		{api.Num{C: 1500}, api.Num{C: 1500}},
		{api.Num{C: 1250, S: 3}, api.Num{C: 125, S: 2}},
		{api.Num{C: 125, S: 3}, api.Num{C: 125, S: 3}},
		{api.Num{Neg: true, C: 1500, S: 3}, api.Num{Neg: true, C: 15, S: 1}},
		{api.Num{S: 5}, api.Num{}},
		{api.Num{S: 1}, api.Num{}},
		{api.Num{C: 100000, S: 5}, api.Num{C: 1}},
	} {
		if got := decimal.Least(x.n); got != x.want {
			t.Errorf("Least(%+v): %+v; not %+v", x.n, got, x.want)
		}
	}
	for _, n := range goods() {
		got := decimal.Least(n)
		if !decimal.Good(got) || worth(got).Cmp(worth(n)) != 0 || got.S != 0 && got.C%10 == 0 {
			t.Errorf("Least(%+v): %+v", n, got)
		}
	}
	for _, bad := range bads() {
		if got := decimal.Least(bad); got != bad {
			t.Errorf("Least(%+v): %+v", bad, got)
		}
	}
}

// P1.4: sums go on exactly through many steps.
func TestSumsOfMany(t *testing.T) {
	total, exact := api.Num{}, new(big.Rat)
	for i := range 2000 {
		n := api.Num{Neg: i%3 == 1, C: int64(i)*7919%100003 + 1, S: i % (api.MaxScale + 1)}
		next, e := decimal.Add(total, n)
		exact.Add(exact, worth(n))
		if e != api.OK || worth(next).Cmp(exact) != 0 {
			t.Fatalf("step %d: %s; %+v, %v", i, fmt.Sprint(exact), next, e)
		}
		total = next
	}
}
