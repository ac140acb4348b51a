package voice

import "cantus/api"

// Phases are 2^32nds of a circle.
const (
	quarterRound = 1 << 30
	halfRound    = 1 << 31
	wholeRound   = 1 << 32
)

// The circle's numbers are each a part of it away from the next one.
const (
	circleCount  = 256
	quarterCount = circleCount / 4
	part         = wholeRound / circleCount
)

// turn leads from a number of the circle to the next one.
const turn = complex(0x1.ffd886084cd0dp-1, 0x1.92155f7a3667ep-6)

// quarter: the circle's numbers up to its top. Sine reads it; a shape works them out anew, so that no voice hangs on what start-up code has done.
var quarter = quarterNumbers()

// Sine is the sine of so many 2^32nds of a circle.
func Sine(phase uint32) float64 { return sine(phase, kept) }

// Shape is a wave at a place of its circle.
func Shape(kind int, phase uint32) (float64, api.Errno) {
	switch kind {
	case api.ShapeSine:
		return sine(phase, quarterNumber), api.OK
	case api.ShapeSaw:
		return fromNought(phase) / halfRound, api.OK
	case api.ShapeSquare:
		return square(phase), api.OK
	case api.ShapeTriangle:
		return triangle(phase), api.OK
	}
	return 0, api.ErrKind
}

// Step is how far a wave goes in a sample, that swings so often in a second.
func Step(hertz float64, rate int) (uint32, api.Errno) {
	if rate < 1 || rate > api.MaxSampleRate {
		return 0, api.ErrRange
	}
	// Asked by what must hold, as nothing holds of what is no number.
	if !(hertz >= 0 && hertz <= float64(rate)/2) {
		return 0, api.ErrRange
	}
	return uint32(float64(hertz*wholeRound) / float64(rate)), api.OK
}

// sine takes the quarter's numbers from the function that is handed to it.
func sine(phase uint32, number func(i uint32) float64) float64 {
	k := phase / part
	f := float64(phase%part) / part
	a, b := circle(k, number), circle((k+1)%circleCount, number)
	return a + float64((b-a)*f)
}

// circle is its number k, below circleCount.
func circle(k uint32, number func(i uint32) float64) float64 {
	switch {
	case k <= quarterCount:
		return number(k)
	case k <= 2*quarterCount:
		return number(2*quarterCount - k)
	case k <= 3*quarterCount:
		return -number(k - 2*quarterCount)
	}
	return -number(circleCount - k)
}

func kept(i uint32) float64 { return quarter[i] }

// quarterNumbers goes turn by turn: the rounding of each number goes on into the next one. The last one is told, not reached.
func quarterNumbers() [quarterCount + 1]float64 {
	var out [quarterCount + 1]float64
	z := complex(1, 0)
	for i := range quarterCount {
		out[i] = imag(z)
		z = times(z, turn)
	}
	out[quarterCount] = 1
	return out
}

// quarterNumber goes the same way, as far as number i.
func quarterNumber(i uint32) float64 {
	if i == quarterCount {
		return 1
	}
	z := complex(1, 0)
	for range i {
		z = times(z, turn)
	}
	return imag(z)
}

// times is written out: of z * w some machines put a product and the sum behind it together.
func times(z, w complex128) complex128 {
	a, b, c, d := real(z), imag(z), real(w), imag(w)
	return complex(float64(a*c)-float64(b*d), float64(a*d)+float64(b*c))
}

// fromNought is how far a phase is behind phase 0, or, from half a round on, ahead of the next one: then it is below 0. A whole number becomes the float, so that nought is never -0.
func fromNought(phase uint32) float64 { return float64(int32(phase)) }

func square(phase uint32) float64 {
	if phase < halfRound {
		return 1
	}
	return -1
}

func triangle(phase uint32) float64 {
	if phase > quarterRound && phase <= 3*quarterRound {
		return fromNought(halfRound-phase) / quarterRound
	}
	return fromNought(phase) / quarterRound
}
