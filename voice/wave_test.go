package voice_test

import (
	"math"
	"math/big"
	"math/rand"
	"testing"

	"cantus/api"
	"cantus/voice"
)

// exact has room for each sum and product of two floats, so that what comes of it is rounded once, by whole numbers alone.
func exact() *big.Float { return new(big.Float).SetPrec(2200) }

func float(x float64) *big.Float { return exact().SetFloat64(x) }

func rounded(x *big.Float) float64 {
	out, _ := x.Float64()
	return out
}

func sum(x, y float64) float64 { return rounded(exact().Add(float(x), float(y))) }

func difference(x, y float64) float64 { return rounded(exact().Sub(float(x), float(y))) }

func product(x, y float64) float64 { return rounded(exact().Mul(float(x), float(y))) }

// quotient of a float by a whole number: a first quotient of so many bits, if it isn't exact, is never midway between two floats.
func quotient(x float64, y int) float64 { return rounded(exact().Quo(float(x), float(float64(y)))) }

// same: bit by bit, so that -0 is not 0.
func same(x, y float64) bool { return math.Float64bits(x) == math.Float64bits(y) }

// isQuarter is the quarter as O1 says it.
func isQuarter() []float64 {
	const c, d = 0x1.ffd886084cd0dp-1, 0x1.92155f7a3667ep-6
	var out []float64
	a, b := 1.0, 0.0
	for range 64 {
		out = append(out, b)
		a, b = difference(product(a, c), product(b, d)), sum(product(a, d), product(b, c))
	}
	return append(out, 1)
}

// isCircle is the circle as O1 says it: 256 numbers, and the first one again.
func isCircle() []float64 {
	q := isQuarter()
	var out []float64
	for k := range 256 {
		switch {
		case k <= 64:
			out = append(out, q[k])
		case k <= 128:
			out = append(out, q[128-k])
		case k <= 192:
			out = append(out, -q[k-128])
		default:
			out = append(out, -q[256-k])
		}
	}
	return append(out, out[0])
}

// isSine is O2's Sine, by whole numbers.
func isSine(circle []float64, phase uint32) float64 {
	k, f := int(phase)>>24, math.Ldexp(float64(int(phase)&(1<<24-1)), -24)
	a, b := circle[k], circle[k+1]
	return sum(a, product(difference(b, a), f))
}

// somePhases are those around each number of the circle, and some that are drawn.
func somePhases() []uint32 {
	var out []uint32
	for k := range uint32(256) {
		for _, by := range []uint32{0, 1, 2, 3, 1<<23 - 1, 1 << 23, 1<<23 + 1, 1<<24 - 2, 1<<24 - 1} {
			out = append(out, k<<24+by)
		}
	}
	r := rand.New(rand.NewSource(13))
	for range 20000 {
		out = append(out, r.Uint32())
	}
	return out
}

func TestO1Examples(t *testing.T) {
	for _, x := range []struct {
		k    uint32
		want float64
	}{
		{0, 0}, {1, 0x1.92155f7a3667ep-06}, {32, 0x1.6a09e667f3bd1p-01}, {64, 1}, {96, 0x1.6a09e667f3bd1p-01}, {127, 0x1.92155f7a3667ep-06},
		{128, 0}, {129, -0x1.92155f7a3667ep-06}, {160, -0x1.6a09e667f3bd1p-01}, {192, -1}, {224, -0x1.6a09e667f3bd1p-01}, {255, -0x1.92155f7a3667ep-06},
	} {
		if got := voice.Sine(x.k << 24); !same(got, x.want) {
			t.Errorf("number %d: %x, not %x", x.k, got, x.want)
		}
	}
}

// TestO1Circle asks for each number of the circle: there nothing of the next one is added. What Sine reads, what a shape works out and what a voice sings are one circle.
func TestO1Circle(t *testing.T) {
	sings := render(t, begin(t, api.Patch{Shape: api.ShapeSine, Step: 1 << 24, Gain: 1, Sustain: api.One}), 256)
	for k, want := range isCircle()[:256] {
		got := voice.Sine(uint32(k) << 24)
		if !same(got, want) {
			t.Errorf("number %d: %x, not %x", k, got, want)
		}
		if x, err := voice.Shape(api.ShapeSine, uint32(k)<<24); !same(x, want) || err != api.OK {
			t.Errorf("number %d of a shape: %x %d, not %x", k, x, err, want)
		}
		if !same(sings[k], want) {
			t.Errorf("number %d of a voice: %x, not %x", k, sings[k], want)
		}
		if sine := math.Sin(2 * math.Pi * float64(k) / 256); math.Abs(got-sine) > 1e-14 {
			t.Errorf("number %d: %v, far from %v", k, got, sine)
		}
	}
}

func TestO2SineExamples(t *testing.T) {
	for _, x := range []struct {
		phase uint32
		want  float64
	}{
		{0, 0}, {1, 0x1.92155f7a3667ep-30}, {1 << 30, 1}, {1<<30 + 12345678, 0x1.ffe2f36cda659p-01}, {1<<31 - 1, 0x1.92155f8p-30},
		{1 << 31, 0}, {3 << 30, -1}, {1<<32 - 1, -0x1.92155f8p-30},
	} {
		if got := voice.Sine(x.phase); !same(got, x.want) {
			t.Errorf("sine of %d: %x, not %x", x.phase, got, x.want)
		}
	}
}

func TestO2Sine(t *testing.T) {
	circle := isCircle()
	for _, p := range somePhases() {
		want := isSine(circle, p)
		if got := voice.Sine(p); !same(got, want) {
			t.Fatalf("sine of %d: %x, not %x", p, got, want)
		}
		if got, err := voice.Shape(api.ShapeSine, p); !same(got, want) || err != api.OK {
			t.Fatalf("shape of a sine at %d: %x %d, not %x", p, got, err, want)
		}
		if sine := math.Sin(2 * math.Pi * math.Ldexp(float64(p), -32)); math.Abs(want-sine) > 1e-4 {
			t.Fatalf("sine of %d: %v, far from %v", p, want, sine)
		}
	}
}

func TestO2ShapeExamples(t *testing.T) {
	for _, x := range []struct {
		phase                 uint32
		saw, square, triangle float64
	}{
		{0, 0, 1, 0},
		{1, 0x1p-31, 1, 0x1p-30},
		{1<<30 - 1, 0.5 - 0x1p-31, 1, 1 - 0x1p-30},
		{1 << 30, 0.5, 1, 1},
		{1<<30 + 1, 0.5 + 0x1p-31, 1, 1 - 0x1p-30},
		{1<<31 - 1, 1 - 0x1p-31, 1, 0x1p-30},
		{1 << 31, -1, -1, 0},
		{1<<31 + 1, -1 + 0x1p-31, -1, -0x1p-30},
		{3<<30 - 1, -0.5 - 0x1p-31, -1, -1 + 0x1p-30},
		{3 << 30, -0.5, -1, -1},
		{3<<30 + 1, -0.5 + 0x1p-31, -1, -1 + 0x1p-30},
		{1<<32 - 1, -0x1p-31, -1, -0x1p-30},
	} {
		for kind, want := range map[int]float64{api.ShapeSaw: x.saw, api.ShapeSquare: x.square, api.ShapeTriangle: x.triangle} {
			if got, err := voice.Shape(kind, x.phase); !same(got, want) || err != api.OK {
				t.Errorf("shape %d at %d: %x %d, not %x", kind, x.phase, got, err, want)
			}
		}
	}
}

// isShape is O2's shapes but the sine; all of it is exact, as phases are below 2^53.
func isShape(kind int, phase uint32) float64 {
	n := int64(phase)
	switch {
	case kind == api.ShapeSaw && n >= 1<<31:
		return float64(n-1<<32) / (1 << 31)
	case kind == api.ShapeSaw:
		return float64(n) / (1 << 31)
	case kind == api.ShapeSquare && n >= 1<<31:
		return -1
	case kind == api.ShapeSquare:
		return 1
	case n <= 1<<30:
		return float64(n) / (1 << 30)
	case n <= 3<<30:
		return float64(1<<31-n) / (1 << 30)
	}
	return float64(n-1<<32) / (1 << 30)
}

func TestO2Shapes(t *testing.T) {
	for _, p := range somePhases() {
		for _, kind := range []int{api.ShapeSaw, api.ShapeSquare, api.ShapeTriangle} {
			if got, err := voice.Shape(kind, p); !same(got, isShape(kind, p)) || err != api.OK {
				t.Fatalf("shape %d at %d: %x %d, not %x", kind, p, got, err, isShape(kind, p))
			}
		}
	}
}

func wrongShapes() []int {
	return []int{math.MinInt, math.MinInt + 1, -1 << 32, -4, -1, 0, 5, 6, 1<<8 + 1, 1<<32 + 1, 1<<32 + 4, math.MaxInt}
}

func TestO2Wrong(t *testing.T) {
	for _, kind := range wrongShapes() {
		for _, p := range []uint32{0, 1, 1 << 30, 1 << 31, 3 << 30, 1<<32 - 1} {
			if got, err := voice.Shape(kind, p); !same(got, 0) || err != api.ErrKind {
				t.Errorf("shape %d at %d: %x %d", kind, p, got, err)
			}
		}
	}
}

func TestO3Examples(t *testing.T) {
	for _, x := range []struct {
		hertz float64
		rate  int
		want  uint32
	}{
		{0, 44100, 0}, {math.Copysign(0, -1), 44100, 0}, {440, 44100, 42852281}, {22050, 44100, 1 << 31}, {1, 1 << 20, 1 << 12}, {1 << 19, 1 << 20, 1 << 31},
		{0.5, 1, 1 << 31}, {0.25, 1, 1 << 30}, {0, 1, 0}, {1.5, 3, 1 << 31}, {1, 3, 1431655765}, {math.Nextafter(0.5, 0), 1, 1<<31 - 1},
		{math.SmallestNonzeroFloat64, 1, 0}, {0x1p-32, 1, 1}, {math.Nextafter(0x1p-32, 0), 1, 0}, {math.Nextafter(0x1p-31, 0), 1, 1},
	} {
		if got, err := voice.Step(x.hertz, x.rate); got != x.want || err != api.OK {
			t.Errorf("step of %v by %d: %d %d, not %d", x.hertz, x.rate, got, err, x.want)
		}
	}
}

func TestO3All(t *testing.T) {
	r := rand.New(rand.NewSource(3))
	rates := []int{1, 2, 3, 7, 8000, 11025, 44100, 48000, 96001, 1<<20 - 1, 1 << 20}
	for range 300 {
		rates = append(rates, 1+r.Intn(1<<20))
	}
	for _, rate := range rates {
		half := float64(rate) / 2
		hertz := []float64{0, 0x1p-1074, half / 3, half / 2, math.Nextafter(half, 0), half}
		for range 50 {
			// What comes of a whole number of steps is near to where a rounded quotient is seen.
			hertz = append(hertz, r.Float64()*half, float64(r.Int63n(1<<31)+1)*float64(rate)/(1<<32))
		}
		for _, h := range hertz {
			want, _ := float(quotient(product(h, 1<<32), rate)).Int64()
			if got, err := voice.Step(h, rate); int64(got) != want || err != api.OK {
				t.Fatalf("step of %x by %d: %d %d, not %d", h, rate, got, err, want)
			}
		}
	}
}

func TestO3Wrong(t *testing.T) {
	for _, rate := range []int{math.MinInt, -1 << 32, -44100, -1, 0, 1<<20 + 1, 1<<32 + 44100, math.MaxInt} {
		for _, hertz := range []float64{0, 0.25, 440, -1, math.NaN()} {
			if got, err := voice.Step(hertz, rate); got != 0 || err != api.ErrRange {
				t.Errorf("step of %v by %d: %d %d", hertz, rate, got, err)
			}
		}
	}
	for _, rate := range []int{1, 2, 3, 44099, 44100, 1 << 20} {
		half := float64(rate) / 2
		for _, hertz := range []float64{
			math.Nextafter(half, math.Inf(1)), half + 0.5, 2 * half, 1 << 32, math.MaxFloat64, math.Inf(1),
			-math.SmallestNonzeroFloat64, -0.5, -half, -math.MaxFloat64, math.Inf(-1), math.NaN(), -math.NaN(),
		} {
			if got, err := voice.Step(hertz, rate); got != 0 || err != api.ErrRange {
				t.Errorf("step of %v by %d: %d %d", hertz, rate, got, err)
			}
		}
	}
}
