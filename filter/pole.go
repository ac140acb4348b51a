package filter

import "cantus/api"

// Stable tells whether a pole lies within the circle.
func Stable(p api.Pole) bool {
	return fair(p) && square(p.Re)+square(p.Im) < api.Unit*api.Unit
}

// Design is the filter with a pole and a zero, and their mirror images.
func Design(pole, zero api.Pole, gain float64) (api.Coefs, api.Errno) {
	if !fair(pole, zero) || !within(api.MaxGain, gain) {
		return api.Coefs{}, api.ErrRange
	}
	if !Stable(pole) {
		return api.Coefs{}, api.ErrFit
	}
	a1, a2 := pair(point(pole))
	b1, b2 := pair(point(zero))
	return api.Coefs{B0: gain, B1: float64(gain * b1), B2: float64(gain * b2), A1: a1, A2: a2}, api.OK
}

// Response is what a filter makes of a turning point: one number over another one.
func Response(c api.Coefs, z complex128) (over, under complex128) {
	return powers(z, c.B0, c.B1, c.B2), powers(z, 1, c.A1, c.A2)
}

func fair(poles ...api.Pole) bool {
	for _, p := range poles {
		if !isPart(p.Re) || !isPart(p.Im) {
			return false
		}
	}
	return true
}

func isPart(n int) bool { return n >= -api.MaxPole && n <= api.MaxPole }

// square has no sign, so that there is room for the sum of two: of fair parts it is at most 2^63.
func square(n int) uint64 { return uint64(n * n) }

// point is exact: a fair part has few bits, and Unit is a power of two.
func point(p api.Pole) complex128 {
	return complex(float64(p.Re)/api.Unit, float64(p.Im)/api.Unit)
}

// pair is what a point and its mirror image make of a square of z: what stands at z, and what stands alone.
func pair(z complex128) (middle, last float64) {
	image := complex(real(z), -imag(z))
	return -real(z + image), real(times(z, image))
}

// powers is first times a power of z, and the others times lower and lower ones, from the left on: the last one stands alone.
func powers(z complex128, first float64, others ...float64) complex128 {
	out := complex(first, 0)
	for _, x := range others {
		out = times(out, z) + complex(x, 0)
	}
	return out
}

// times is written out: of z * w some machines put a product and the sum behind it together.
func times(z, w complex128) complex128 {
	a, b, c, d := real(z), imag(z), real(w), imag(w)
	return complex(float64(a*c)-float64(b*d), float64(a*d)+float64(b*c))
}
