// Package frac: fractions of whole numbers that aren't large: see doc/01-frac.md.
package frac

import (
	"cmp"

	"cantus/api"
)

// Parts of right fractions are at most 2^30 either way: a product of two of them is at most 2^60, a sum of two products at most 2^61, so nothing below wraps round.

// Right tells whether a fraction is written as it must be.
func Right(f api.Frac) bool {
	return bounded(f) && divisor(f.Up, f.Down) == 1
}

// Make is up / down.
func Make(up, down int) (api.Frac, api.Errno) {
	if down < 1 {
		return api.Frac{}, api.ErrRange
	}
	return lowest(up, down)
}

// Plus is the sum.
func Plus(a, b api.Frac) (api.Frac, api.Errno) {
	if !bothRight(a, b) {
		return api.Frac{}, api.ErrForm
	}
	return lowest(a.Up*b.Down+b.Up*a.Down, a.Down*b.Down)
}

// Minus is the difference.
func Minus(a, b api.Frac) (api.Frac, api.Errno) {
	if !bothRight(a, b) {
		return api.Frac{}, api.ErrForm
	}
	return lowest(a.Up*b.Down-b.Up*a.Down, a.Down*b.Down)
}

// Times is the product.
func Times(a, b api.Frac) (api.Frac, api.Errno) {
	if !bothRight(a, b) {
		return api.Frac{}, api.ErrForm
	}
	return lowest(a.Up*b.Up, a.Down*b.Down)
}

// Over is the quotient.
func Over(a, b api.Frac) (api.Frac, api.Errno) {
	if !bothRight(a, b) {
		return api.Frac{}, api.ErrForm
	}
	if b.Up == 0 {
		return api.Frac{}, api.ErrRange
	}
	up, down := a.Up*b.Down, a.Down*b.Up
	if down < 0 {
		// The sign of a fraction stands in its upper part alone.
		up, down = -up, -down
	}
	return lowest(up, down)
}

// Order tells which is the greater: -1, 0, 1.
func Order(a, b api.Frac) (int, api.Errno) {
	if !bothRight(a, b) {
		return 0, api.ErrForm
	}
	return cmp.Compare(a.Up*b.Down, b.Up*a.Down), api.OK
}

// Floor is the greatest whole number that isn't more.
func Floor(a api.Frac) (int, api.Errno) {
	if !Right(a) {
		return 0, api.ErrForm
	}
	whole := a.Up / a.Down
	if a.Up%a.Down < 0 {
		// Go divides towards 0, which is upwards here.
		whole--
	}
	return whole, api.OK
}

func bothRight(a, b api.Frac) bool { return Right(a) && Right(b) }

// bounded says nothing of whether the parts have a divisor together.
func bounded(f api.Frac) bool {
	return f.Up >= -api.MaxPart && f.Up <= api.MaxPart && f.Down >= 1 && f.Down <= api.MaxPart
}

// lowest needs a down of at least 1; the bounds are asked behind the division, as large parts may come down to small ones.
func lowest(up, down int) (api.Frac, api.Errno) {
	d := divisor(up, down)
	f := api.Frac{Up: up / d, Down: down / d}
	if !bounded(f) {
		return api.Frac{}, api.ErrMuch
	}
	return f, api.OK
}

// divisor is the greatest one that both have, above 0; down is at least 1.
// The sign is taken off at the end only: the least int has no opposite, but every remainder by down has.
func divisor(up, down int) int {
	a, b := down, up%down
	for b != 0 {
		a, b = b, a%b
	}
	if a < 0 {
		return -a
	}
	return a
}
