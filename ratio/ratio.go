// Package ratio: fractions: see doc/01-ratio.md.
package ratio

import (
	"cmp"

	"fellwalker/api"
)

// Make answers num through den, in lowest terms.
func Make(num, den int) (api.Ratio, api.Errno) {
	if !inBounds(num, den) {
		return api.Ratio{}, api.ErrArg
	}
	return lowest(num, den), api.OK
}

// Check answers ErrForm, if r is no ratio.
func Check(r api.Ratio) api.Errno {
	if !inBounds(r.Num, r.Den) || lowest(r.Num, r.Den) != r {
		return api.ErrForm
	}
	return api.OK
}

// Cmp answers -1, 0 or 1, as a is less than b, the same, or greater.
func Cmp(a, b api.Ratio) (int, api.Errno) {
	if e := checkBoth(a, b); e != api.OK {
		return 0, e
	}
	// Products of two parts are at most MaxPart squared, far below the bounds of int.
	return cmp.Compare(a.Num*b.Den, b.Num*a.Den), api.OK
}

// Add answers the sum of a and b.
func Add(a, b api.Ratio) (api.Ratio, api.Errno) {
	if e := checkBoth(a, b); e != api.OK {
		return api.Ratio{}, e
	}
	return settle(a.Num*b.Den+b.Num*a.Den, a.Den*b.Den)
}

// Mul answers the product of a and b.
func Mul(a, b api.Ratio) (api.Ratio, api.Errno) {
	if e := checkBoth(a, b); e != api.OK {
		return api.Ratio{}, e
	}
	return settle(a.Num*b.Num, a.Den*b.Den)
}

// Floor answers the greatest whole number that is no greater than r.
func Floor(r api.Ratio) (int, api.Errno) {
	if e := Check(r); e != api.OK {
		return 0, e
	}
	whole := r.Num / r.Den
	// Go cuts towards 0, which is too high for what is below 0.
	if r.Num%r.Den < 0 {
		whole--
	}
	return whole, api.OK
}

// Ceil answers the least whole number that is no less than r.
func Ceil(r api.Ratio) (int, api.Errno) {
	if e := Check(r); e != api.OK {
		return 0, e
	}
	whole := r.Num / r.Den
	// Go cuts towards 0, which is too low for what is above 0.
	if r.Num%r.Den > 0 {
		whole++
	}
	return whole, api.OK
}

func checkBoth(a, b api.Ratio) api.Errno {
	if e := Check(a); e != api.OK {
		return e
	}
	return Check(b)
}

// settle bounds the parts only once they are in lowest terms: what is too large before may fit after.
func settle(num, den int) (api.Ratio, api.Errno) {
	r := lowest(num, den)
	if !inBounds(r.Num, r.Den) {
		return api.Ratio{}, api.ErrLarge
	}
	return r, api.OK
}

func inBounds(num, den int) bool {
	return -api.MaxPart <= num && num <= api.MaxPart && 1 <= den && den <= api.MaxPart
}

// lowest wants a den of at least 1, so that there is something to divide by.
func lowest(num, den int) api.Ratio {
	d := commonDivisor(max(num, -num), den)
	return api.Ratio{Num: num / d, Den: den / d}
}

func commonDivisor(a, b int) int {
	for b != 0 {
		a, b = b, a%b
	}
	return a
}
