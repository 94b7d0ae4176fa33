// Package frac has fractions.
package frac

import (
	"cmp"

	"fairsluice/api"
)

// Of gives the fraction of two numbers, in lowest terms.
func Of(top, bottom int) (api.Frac, error) {
	if !mayBe(top, bottom) {
		return api.Frac{}, api.ErrRange
	}
	return lowest(top, bottom), nil
}

// Check tells what is wrong with a fraction.
func Check(a api.Frac) error { return checkAll(a) }

// Add gives the sum of two.
func Add(a, b api.Frac) (api.Frac, error) {
	if err := checkAll(a, b); err != nil {
		return api.Frac{}, err
	}
	return made(a.Top*b.Bottom+b.Top*a.Bottom, a.Bottom*b.Bottom)
}

// Times gives n times a fraction.
func Times(a api.Frac, n int) (api.Frac, error) {
	if err := checkAll(a); err != nil {
		return api.Frac{}, err
	}
	if n < -api.MaxCap || n > api.MaxCap {
		return api.Frac{}, api.ErrRange
	}
	return made(a.Top*n, a.Bottom)
}

// By gives the n-th part of a fraction.
func By(a api.Frac, n int) (api.Frac, error) {
	if err := checkAll(a); err != nil {
		return api.Frac{}, err
	}
	if n < 1 || n > api.MaxCap {
		return api.Frac{}, api.ErrRange
	}
	return made(a.Top, a.Bottom*n)
}

// Compare tells which of two is less: -1 if a is, 1 if b is, 0 if neither.
func Compare(a, b api.Frac) (int, error) {
	if err := checkAll(a, b); err != nil {
		return 0, err
	}
	return cmp.Compare(a.Top*b.Bottom, b.Top*a.Bottom), nil
}

// checkAll tells what is wrong with the first fraction that has a fault.
func checkAll(list ...api.Frac) error {
	for _, a := range list {
		// Bounds first: beyond them -Top may wrap, and by 0 nothing is in lowest terms.
		if !mayBe(a.Top, a.Bottom) {
			return api.ErrRange
		}
		if a != lowest(a.Top, a.Bottom) {
			return api.ErrShape
		}
	}
	return nil
}

// made brings what was worked out to lowest terms and holds it against the
// bounds only then, since a sum may shrink back into them. No product of two
// numbers within the bounds is above 10^17, so none wraps on the way here.
func made(top, bottom int) (api.Frac, error) {
	a := lowest(top, bottom)
	if !mayBe(a.Top, a.Bottom) {
		return api.Frac{}, api.ErrFull
	}
	return a, nil
}

// mayBe tells if both numbers are within the bounds of a fraction.
func mayBe(top, bottom int) bool {
	return bottom >= 1 && bottom <= api.MaxBottom && top >= -api.MaxTop && top <= api.MaxTop
}

// lowest needs a bottom above 0; of a top of 0 the divisor is the bottom, so it gives 0 by 1.
func lowest(top, bottom int) api.Frac {
	d := divisor(max(top, -top), bottom)
	return api.Frac{Top: top / d, Bottom: bottom / d}
}

// divisor is the greatest that two numbers have in common.
func divisor(a, b int) int {
	for b != 0 {
		a, b = b, a%b
	}
	return a
}
