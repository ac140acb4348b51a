package fourier

import (
	"math"

	"cantus/api"
)

// Product is the product of two lists, as of polynomials: by waves, and exact.
func Product(a, b []int) ([]int, api.Errno) {
	if err := wrong(a); err != api.OK {
		return nil, err
	}
	if err := wrong(b); err != api.OK {
		return nil, err
	}
	many := len(a) + len(b) - 1
	sound := multiplied(a, b, pointsFor(many))
	out := make([]int, many)
	for k := range out {
		// A wave is within 2^-42 of where it belongs; ten levels there, and ten back, leave each place within 2^-6 of its number.
		out[k] = int(math.Round(real(sound[k])))
	}
	return out, api.OK
}

func wrong(numbers []int) api.Errno {
	if len(numbers) < 1 || len(numbers) > api.MaxFactor {
		return api.ErrMany
	}
	for _, x := range numbers {
		if x < -api.MaxWhole || x > api.MaxWhole {
			return api.ErrRange
		}
	}
	return api.OK
}

// pointsFor is the least number of points that a plan can have and that so many numbers find room in: none of them goes round then, into the first ones.
func pointsFor(many int) int {
	n := 1
	for n < many {
		n *= 2
	}
	return n
}

// multiplied is what is put together of the products of waves.
func multiplied(a, b []int, n int) []complex128 {
	p := &Plan{points: n}
	x, y := p.apart(points(a, n)), p.apart(points(b, n))
	for k := range n {
		x[k] = times(x[k], y[k])
	}
	return p.together(x)
}

// points are the numbers, and noughts behind them.
func points(numbers []int, n int) []complex128 {
	out := make([]complex128, n)
	for i, x := range numbers {
		out[i] = complex(float64(x), 0)
	}
	return out
}
