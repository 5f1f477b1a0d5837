package ratio

import (
	"math"
	"math/big"
	"testing"

	"fellwalker/api"
)

const top = api.MaxPart

// wrong holds what is no ratio: a Den below 1, parts beyond their bounds, terms that are not lowest.
var wrong = []api.Ratio{
	{}, {Num: 1}, {Num: 1, Den: -1}, {Num: -1, Den: -2}, {Num: 0, Den: -1}, {Num: 1, Den: -top},
	{Num: 0, Den: 2}, {Num: 0, Den: top}, {Num: 2, Den: 4}, {Num: -3, Den: 3}, {Num: top, Den: top}, {Num: -top, Den: 2},
	{Num: top + 1, Den: 1}, {Num: -top - 1, Den: 1}, {Num: 1, Den: top + 1}, {Num: 0, Den: top + 1},
	{Num: math.MinInt, Den: 1}, {Num: math.MaxInt, Den: 1}, {Num: 1, Den: math.MinInt}, {Num: 1, Den: math.MaxInt},
	{Num: math.MinInt, Den: math.MinInt}, {Num: math.MinInt, Den: math.MaxInt},
}

// right holds ratios, the edges among them.
func right() []api.Ratio {
	l := []api.Ratio{
		{Num: top, Den: 1}, {Num: -top, Den: 1}, {Num: 1, Den: top}, {Num: -1, Den: top},
		{Num: top - 1, Den: top}, {Num: top, Den: top - 1}, {Num: 1 - top, Den: top}, {Num: -top, Den: top - 1},
		{Num: top - 1, Den: 1}, {Num: 1, Den: top - 1}, {Num: 1, Den: top / 2}, {Num: top / 2, Den: 1}, {Num: 999, Den: 1000}, {Num: 1000, Den: 1}, {Num: 1, Den: 1001},
	}
	for den := 1; den <= 7; den++ {
		for num := -15; num <= 15; num++ {
			if r := fraction(num, den); r.Denom().Int64() == int64(den) {
				l = append(l, api.Ratio{Num: num, Den: den})
			}
		}
	}
	return l
}

func fraction(num, den int) *big.Rat { return big.NewRat(int64(num), int64(den)) }

func rat(r api.Ratio) *big.Rat { return fraction(r.Num, r.Den) }

// told is what a sum or product must be answered as.
func told(x *big.Rat) (api.Ratio, api.Errno) {
	bound := big.NewInt(top)
	if x.Num().CmpAbs(bound) > 0 || x.Denom().CmpAbs(bound) > 0 {
		return api.Ratio{}, api.ErrLarge
	}
	return api.Ratio{Num: int(x.Num().Int64()), Den: int(x.Denom().Int64())}, api.OK
}

func TestMake(t *testing.T) {
	for _, x := range []struct {
		num, den int
		want     api.Ratio
	}{
		{6, 4, api.Ratio{Num: 3, Den: 2}},
		{-6, 4, api.Ratio{Num: -3, Den: 2}},
		{7, 1, api.Ratio{Num: 7, Den: 1}},
		{0, 1, api.Ratio{Num: 0, Den: 1}},
		{0, 5, api.Ratio{Num: 0, Den: 1}},
		{0, top, api.Ratio{Num: 0, Den: 1}},
		{top, 1, api.Ratio{Num: top, Den: 1}},
		{-top, 1, api.Ratio{Num: -top, Den: 1}},
		{1, top, api.Ratio{Num: 1, Den: top}},
		{top, top, api.Ratio{Num: 1, Den: 1}},
		{-top, top, api.Ratio{Num: -1, Den: 1}},
		{top - 1, top, api.Ratio{Num: top - 1, Den: top}},
	} {
		if r, e := Make(x.num, x.den); r != x.want || e != api.OK {
			t.Error(x, r, e)
		}
	}
}

func TestMakeOfMany(t *testing.T) {
	for den := 1; den <= 40; den++ {
		for num := -90; num <= 90; num++ {
			want, _ := told(fraction(num, den))
			if r, e := Make(num, den); r != want || e != api.OK {
				t.Error(num, den, r, e)
			}
		}
	}
}

func TestMakeRefuses(t *testing.T) {
	for _, x := range []struct{ num, den int }{
		{1, 0}, {0, 0}, {1, -1}, {-1, -1}, {0, -1}, {1, -top}, {1, -top - 1},
		{top + 1, 1}, {-top - 1, 1}, {1, top + 1}, {0, top + 1}, {top + 1, top + 1}, {2 * top, 2},
		{math.MinInt, 1}, {math.MaxInt, 1}, {1, math.MinInt}, {1, math.MaxInt}, {math.MinInt, math.MinInt}, {math.MinInt, -1},
	} {
		if r, e := Make(x.num, x.den); r != (api.Ratio{}) || e != api.ErrArg {
			t.Error(x, r, e)
		}
	}
}

func TestCheck(t *testing.T) {
	for _, r := range right() {
		if e := Check(r); e != api.OK {
			t.Error(r, e)
		}
	}
	for _, r := range wrong {
		if e := Check(r); e != api.ErrForm {
			t.Error(r, e)
		}
	}
}

func TestWrongRatiosAreToldFirst(t *testing.T) {
	for _, r := range wrong {
		// With the greatest number a sum or product would be too large as well: the form is told first.
		for _, o := range append([]api.Ratio{{Num: top, Den: 1}, {Num: 0, Den: 1}}, wrong...) {
			for _, x := range [][2]api.Ratio{{r, o}, {o, r}} {
				if n, e := Cmp(x[0], x[1]); n != 0 || e != api.ErrForm {
					t.Error("Cmp", x, n, e)
				}
				if s, e := Add(x[0], x[1]); s != (api.Ratio{}) || e != api.ErrForm {
					t.Error("Add", x, s, e)
				}
				if p, e := Mul(x[0], x[1]); p != (api.Ratio{}) || e != api.ErrForm {
					t.Error("Mul", x, p, e)
				}
			}
		}
		if n, e := Floor(r); n != 0 || e != api.ErrForm {
			t.Error("Floor", r, n, e)
		}
		if n, e := Ceil(r); n != 0 || e != api.ErrForm {
			t.Error("Ceil", r, n, e)
		}
	}
}

func TestCmp(t *testing.T) {
	for _, x := range []struct {
		a, b api.Ratio
		want int
	}{
		{api.Ratio{Num: 1, Den: 2}, api.Ratio{Num: 1, Den: 3}, 1},
		{api.Ratio{Num: -1, Den: 2}, api.Ratio{Num: -1, Den: 3}, -1},
		{api.Ratio{Num: 0, Den: 1}, api.Ratio{Num: 0, Den: 1}, 0},
		{api.Ratio{Num: -top, Den: 1}, api.Ratio{Num: top, Den: 1}, -1},
		{api.Ratio{Num: top - 1, Den: top}, api.Ratio{Num: top - 2, Den: top - 1}, 1},
	} {
		if n, e := Cmp(x.a, x.b); n != x.want || e != api.OK {
			t.Error(x, n, e)
		}
	}
	for _, a := range right() {
		for _, b := range right() {
			if n, e := Cmp(a, b); n != rat(a).Cmp(rat(b)) || e != api.OK {
				t.Error(a, b, n, e)
			}
		}
	}
}

func TestAddAndMulAtTheEdges(t *testing.T) {
	most, least := api.Ratio{Num: top, Den: 1}, api.Ratio{Num: 1, Den: top}
	one, zero, two, half := api.Ratio{Num: 1, Den: 1}, api.Ratio{Num: 0, Den: 1}, api.Ratio{Num: 2, Den: 1}, api.Ratio{Num: 1, Den: 2}
	for _, x := range []struct {
		name string
		call func(a, b api.Ratio) (api.Ratio, api.Errno)
		a, b api.Ratio
		want api.Ratio
		e    api.Errno
	}{
		{"half and half", Add, half, half, one, api.OK},
		{"up to the bound", Add, api.Ratio{Num: top - 1, Den: 1}, one, most, api.OK},
		{"one beyond", Add, most, one, api.Ratio{}, api.ErrLarge},
		{"one beyond below", Add, api.Ratio{Num: -top, Den: 1}, api.Ratio{Num: -1, Den: 1}, api.Ratio{}, api.ErrLarge},
		{"to nothing", Add, most, api.Ratio{Num: -top, Den: 1}, zero, api.OK},
		{"a Num too large by a Den", Add, most, half, api.Ratio{}, api.ErrLarge},
		{"Dens too large alone, not in lowest terms", Add, least, least, api.Ratio{Num: 1, Den: top / 2}, api.OK},
		{"a Den too large", Add, least, api.Ratio{Num: 1, Den: 3}, api.Ratio{}, api.ErrLarge},
		{"up to the bound", Mul, api.Ratio{Num: 1000, Den: 1}, api.Ratio{Num: 1000, Den: 1}, most, api.OK},
		{"one beyond", Mul, api.Ratio{Num: 101, Den: 1}, api.Ratio{Num: 9901, Den: 1}, api.Ratio{}, api.ErrLarge},
		{"too large alone, not in lowest terms", Mul, most, least, one, api.OK},
		{"too large", Mul, most, two, api.Ratio{}, api.ErrLarge},
		{"too large below 0", Mul, most, api.Ratio{Num: -2, Den: 1}, api.Ratio{}, api.ErrLarge},
		{"the greatest of all", Mul, most, most, api.Ratio{}, api.ErrLarge},
		{"a Den too large", Mul, least, half, api.Ratio{}, api.ErrLarge},
		{"nothing times a small part", Mul, zero, least, zero, api.OK},
		{"both below 0", Mul, api.Ratio{Num: -1, Den: 2}, api.Ratio{Num: -2, Den: 1}, one, api.OK},
	} {
		if r, e := x.call(x.a, x.b); r != x.want || e != x.e {
			t.Error(x.name, x.a, x.b, r, e)
		}
	}
}

func TestAddAndMulOfMany(t *testing.T) {
	for _, a := range right() {
		for _, b := range right() {
			want, f := told(new(big.Rat).Add(rat(a), rat(b)))
			if r, e := Add(a, b); r != want || e != f {
				t.Error("Add", a, b, r, e)
			}
			want, f = told(new(big.Rat).Mul(rat(a), rat(b)))
			if r, e := Mul(a, b); r != want || e != f {
				t.Error("Mul", a, b, r, e)
			}
		}
	}
}

func TestFloorAndCeil(t *testing.T) {
	for _, x := range []struct {
		r           api.Ratio
		floor, ceil int
	}{
		{api.Ratio{Num: 0, Den: 1}, 0, 0},
		{api.Ratio{Num: 5, Den: 1}, 5, 5},
		{api.Ratio{Num: -5, Den: 1}, -5, -5},
		{api.Ratio{Num: 7, Den: 2}, 3, 4},
		{api.Ratio{Num: -7, Den: 2}, -4, -3},
		{api.Ratio{Num: 1, Den: top}, 0, 1},
		{api.Ratio{Num: -1, Den: top}, -1, 0},
		{api.Ratio{Num: top, Den: 1}, top, top},
		{api.Ratio{Num: -top, Den: 1}, -top, -top},
		{api.Ratio{Num: top, Den: top - 1}, 1, 2},
		{api.Ratio{Num: 1 - top, Den: top}, -1, 0},
	} {
		if n, e := Floor(x.r); n != x.floor || e != api.OK {
			t.Error("Floor", x.r, n, e)
		}
		if n, e := Ceil(x.r); n != x.ceil || e != api.OK {
			t.Error("Ceil", x.r, n, e)
		}
	}
}

// A whole number is Floor's if r lies from it to less than one more, and Ceil's the other way round.
func TestFloorAndCeilHoldRatiosBetweenThem(t *testing.T) {
	for _, r := range right() {
		if n, e := Floor(r); n*r.Den > r.Num || (n+1)*r.Den <= r.Num || e != api.OK {
			t.Error("Floor", r, n, e)
		}
		if n, e := Ceil(r); n*r.Den < r.Num || (n-1)*r.Den >= r.Num || e != api.OK {
			t.Error("Ceil", r, n, e)
		}
	}
}
