package filter_test

import (
	"math"
	"math/big"
	"math/rand"
	"testing"

	"cantus/api"
	"cantus/filter"
)

// exact has room for each sum and product of two floats, so that what comes of it is rounded once, by whole numbers alone.
func exact() *big.Float { return new(big.Float).SetPrec(2200) }

func float(x float64) *big.Float { return exact().SetFloat64(x) }

func rounded(x *big.Float) float64 {
	out, _ := x.Float64()
	return out
}

func finite(l ...float64) bool {
	for _, x := range l {
		if math.IsNaN(x) || math.IsInf(x, 0) {
			return false
		}
	}
	return true
}

// Beyond the finite numbers nothing is rounded: there the machine's own sums and products do.

func sum(x, y float64) float64 {
	if !finite(x, y) {
		return x + y
	}
	return rounded(exact().Add(float(x), float(y)))
}

func difference(x, y float64) float64 {
	if !finite(x, y) {
		return x - y
	}
	return rounded(exact().Sub(float(x), float(y)))
}

func product(x, y float64) float64 {
	if !finite(x, y) {
		return x * y
	}
	return rounded(exact().Mul(float(x), float(y)))
}

// same: bit by bit, so that -0 is not 0; of what is no number it says nothing which one it is.
func same(x, y float64) bool {
	return math.Float64bits(x) == math.Float64bits(y) || math.IsNaN(x) && math.IsNaN(y)
}

func samePoint(z, w complex128) bool { return same(real(z), real(w)) && same(imag(z), imag(w)) }

func sameCoefs(c, d api.Coefs) bool {
	return same(c.B0, d.B0) && same(c.B1, d.B1) && same(c.B2, d.B2) && same(c.A1, d.A1) && same(c.A2, d.A2)
}

// isSum and isProduct are those of the chapter.
func isSum(z, w complex128) complex128 {
	return complex(sum(real(z), real(w)), sum(imag(z), imag(w)))
}

func isProduct(z, w complex128) complex128 {
	a, b, c, d := real(z), imag(z), real(w), imag(w)
	return complex(difference(product(a, c), product(b, d)), sum(product(a, d), product(b, c)))
}

// isFair and isStable are J1, by numbers without bounds.
func isFair(p api.Pole) bool {
	most := big.NewInt(1 << 31)
	return big.NewInt(int64(p.Re)).CmpAbs(most) <= 0 && big.NewInt(int64(p.Im)).CmpAbs(most) <= 0
}

func isStable(p api.Pole) bool {
	re, im := big.NewInt(int64(p.Re)), big.NewInt(int64(p.Im))
	far := new(big.Int).Add(new(big.Int).Mul(re, re), new(big.Int).Mul(im, im))
	return isFair(p) && far.Cmp(big.NewInt(1<<60)) < 0
}

// isPair is J2's pair.
func isPair(p api.Pole) (float64, float64) {
	point := complex(math.Ldexp(float64(p.Re), -30), math.Ldexp(float64(p.Im), -30))
	image := complex(real(point), -imag(point))
	return -real(isSum(point, image)), real(isProduct(point, image))
}

// isDesign is J2 of what is right.
func isDesign(pole, zero api.Pole, gain float64) api.Coefs {
	a1, a2 := isPair(pole)
	b1, b2 := isPair(zero)
	return api.Coefs{B0: gain, B1: product(gain, b1), B2: product(gain, b2), A1: a1, A2: a2}
}

// someParts are those around each edge, and what wraps round.
func someParts() []int {
	var out []int
	for _, n := range []int{0, 1 << 15, 46340, 1 << 29, 759250125, 1 << 30, 1 << 31, 1 << 32, 1 << 60, 1 << 62} {
		for by := -2; by <= 2; by++ {
			out = append(out, n+by, -n+by)
		}
	}
	return append(out, math.MinInt, math.MinInt+1, math.MaxInt)
}

// rim is where a pole with this first part is the last one that is stable, upwards.
func rim(re int) api.Pole {
	n := new(big.Int).Mul(big.NewInt(int64(re)), big.NewInt(int64(re)))
	n.Sub(big.NewInt(1<<60-1), n)
	return api.Pole{Re: re, Im: int(n.Sqrt(n).Int64())}
}

func TestJ1Examples(t *testing.T) {
	const one = api.Unit
	for _, x := range []struct {
		p    api.Pole
		want bool
	}{
		{api.Pole{}, true},
		{api.Pole{Re: one}, false}, {api.Pole{Re: one - 1}, true}, {api.Pole{Re: -one}, false}, {api.Pole{Re: 1 - one}, true},
		{api.Pole{Im: one}, false}, {api.Pole{Im: one - 1}, true}, {api.Pole{Im: -one}, false}, {api.Pole{Im: 1 - one}, true},
		{api.Pole{Re: one, Im: 1}, false}, {api.Pole{Re: one / 2, Im: one / 2}, true}, {api.Pole{Re: one * 3 / 4, Im: one * 3 / 4}, false},
		{api.Pole{Re: one - 1, Im: 46340}, true}, {api.Pole{Re: one - 1, Im: 46341}, false},
		// So near to the circle that the sum as a float would be Unit^2.
		{api.Pole{Re: 1073741762, Im: 364889}, true}, {api.Pole{Re: -39245759, Im: 1073024359}, true}, {api.Pole{Re: 333323477, Im: -1020694354}, true},
		{api.Pole{Re: -46340, Im: 1 - one}, true}, {api.Pole{Re: -46341, Im: 1 - one}, false},
		{api.Pole{Re: 2 * one, Im: 2 * one}, false}, {api.Pole{Re: -2 * one, Im: -2 * one}, false}, {api.Pole{Re: 2*one + 1}, false},
		{api.Pole{Re: 1 << 32}, false}, {api.Pole{Im: 1 << 32}, false}, {api.Pole{Re: math.MinInt, Im: math.MinInt}, false},
	} {
		if got := filter.Stable(x.p); got != x.want {
			t.Errorf("%v is stable: %v", x.p, got)
		}
	}
}

func TestJ1Edges(t *testing.T) {
	for _, re := range someParts() {
		for _, im := range someParts() {
			p := api.Pole{Re: re, Im: im}
			if got := filter.Stable(p); got != isStable(p) {
				t.Errorf("%v is stable: %v", p, got)
			}
		}
	}
}

// TestJ1Rim goes along the circle, where one part more or less is what matters.
func TestJ1Rim(t *testing.T) {
	r := rand.New(rand.NewSource(1))
	parts := []int{0, 1, 2, 1<<30 - 2, 1<<30 - 1}
	for range 2000 {
		parts = append(parts, r.Intn(1<<30))
	}
	for _, re := range parts {
		in := rim(re)
		for _, p := range []api.Pole{in, {Re: -in.Re, Im: -in.Im}, {Re: in.Im, Im: -in.Re}, {Re: -in.Im, Im: in.Re}} {
			if !filter.Stable(p) {
				t.Errorf("%v is not stable", p)
			}
		}
		out := api.Pole{Re: in.Re, Im: in.Im + 1}
		for _, p := range []api.Pole{out, {Re: -out.Re, Im: -out.Im}, {Re: out.Im, Im: -out.Re}, {Re: -out.Im, Im: out.Re}} {
			if filter.Stable(p) {
				t.Errorf("%v is stable", p)
			}
		}
	}
}

func TestJ2Examples(t *testing.T) {
	const one = api.Unit
	nought := math.Copysign(0, -1)
	for _, x := range []struct {
		pole, zero api.Pole
		gain       float64
		want       api.Coefs
	}{
		{api.Pole{}, api.Pole{}, 1, api.Coefs{B0: 1, B1: nought, A1: nought}},
		{api.Pole{}, api.Pole{}, -2, api.Coefs{B0: -2, B2: nought, A1: nought}},
		{api.Pole{Re: one / 2, Im: one / 2}, api.Pole{Re: -one}, 1, api.Coefs{B0: 1, B1: 2, B2: 1, A1: -1, A2: 0.5}},
		{api.Pole{Re: -one / 4, Im: -one / 2}, api.Pole{Re: 2 * one, Im: -2 * one}, 3, api.Coefs{B0: 3, B1: -12, B2: 24, A1: 0.5, A2: 0.3125}},
		{api.Pole{Re: one - 1, Im: 46340}, api.Pole{Re: 1 << 28, Im: -one}, 0.3, api.Coefs{
			B0: 0.3, B1: -0x1.3333333333333p-03, B2: 0x1.4666666666666p-02, A1: -0x1.fffffff8p+00, A2: 0x1.ffffffffffd5p-01,
		}},
		{api.Pole{Re: 1}, api.Pole{Im: 1}, nought, api.Coefs{B0: nought, B2: nought, A1: -0x1p-29, A2: 0x1p-60}},
		{api.Pole{}, api.Pole{Re: -2 * one, Im: 2 * one}, 1048576, api.Coefs{B0: 1 << 20, B1: 1 << 22, B2: 1 << 23, A1: nought}},
		{api.Pole{}, api.Pole{Re: -2 * one, Im: -2 * one}, -1048576, api.Coefs{B0: -1 << 20, B1: -1 << 22, B2: -1 << 23, A1: nought}},
	} {
		if got, err := filter.Design(x.pole, x.zero, x.gain); !sameCoefs(got, x.want) || err != api.OK {
			t.Errorf("%v %v by %v: %x %d, not %x", x.pole, x.zero, x.gain, got, err, x.want)
		}
	}
}

func TestJ2Drawn(t *testing.T) {
	r := rand.New(rand.NewSource(2))
	part := func(most int) int { return r.Intn(2*most+1) - most }
	for i := range 20000 {
		pole := api.Pole{Re: part(1<<30 - 1)}
		pole.Im = part(rim(pole.Re).Im)
		if i%5 == 0 {
			pole = rim(pole.Re)
		}
		zero := api.Pole{Re: part(1 << 31), Im: part(1 << 31)}
		gain := (2*r.Float64() - 1) * math.Ldexp(1, r.Intn(40)-19)
		want := isDesign(pole, zero, gain)
		if got, err := filter.Design(pole, zero, gain); !sameCoefs(got, want) || err != api.OK {
			t.Fatalf("%v %v by %x: %x %d, not %x", pole, zero, gain, got, err, want)
		}
	}
}

func TestJ2Gains(t *testing.T) {
	pole, zero := api.Pole{Re: 1 << 29, Im: 12345}, api.Pole{Re: -1<<30 - 777, Im: 1<<31 - 1}
	for _, gain := range []float64{0, math.SmallestNonzeroFloat64, 0x1p-1022, 1, 1048576, math.Nextafter(1048576, 0)} {
		for _, g := range []float64{gain, -gain} {
			want := isDesign(pole, zero, g)
			if got, err := filter.Design(pole, zero, g); !sameCoefs(got, want) || err != api.OK {
				t.Errorf("by %x: %x %d, not %x", g, got, err, want)
			}
		}
	}
}

func wrongGains() []float64 {
	over := math.Nextafter(1048576, math.Inf(1))
	return []float64{over, -over, 1048577, -1048577, 4194304, math.MaxFloat64, -math.MaxFloat64, math.Inf(1), math.Inf(-1), math.NaN(), -math.NaN()}
}

func TestJ2Wrong(t *testing.T) {
	right := api.Pole{Re: 1 << 29}
	refused := func(pole, zero api.Pole, gain float64, want api.Errno) {
		t.Helper()
		if got, err := filter.Design(pole, zero, gain); !sameCoefs(got, api.Coefs{}) || err != want {
			t.Errorf("%v %v by %v: %x %d, not %d", pole, zero, gain, got, err, want)
		}
	}
	loose := []api.Pole{{Re: 1 << 30}, {Im: -1 << 30}, {Re: 1<<30 - 1, Im: 46341}, {Re: 1 << 31, Im: 1 << 31}, {Re: -1 << 31, Im: 1 << 31}}
	for _, n := range []int{math.MinInt, -1 << 32, -1<<31 - 1, 1<<31 + 1, 1 << 32, 1<<32 + 5, math.MaxInt} {
		for _, p := range []api.Pole{{Re: n}, {Im: n}, {Re: n, Im: n}} {
			refused(p, right, 1, api.ErrRange)
			refused(right, p, 1, api.ErrRange)
			refused(p, p, math.NaN(), api.ErrRange)
			for _, pole := range loose {
				// That a pole is not stable is told last.
				refused(pole, p, 1, api.ErrRange)
			}
		}
	}
	for _, gain := range wrongGains() {
		refused(right, right, gain, api.ErrRange)
		for _, pole := range loose {
			refused(pole, right, gain, api.ErrRange)
		}
	}
	for _, pole := range loose {
		refused(pole, right, 1, api.ErrFit)
		refused(pole, pole, 0, api.ErrFit)
		// A zero may lie where a pole may not.
		if _, err := filter.Design(right, pole, 1); err != api.OK {
			t.Errorf("the zero %v: %d", pole, err)
		}
	}
}

// isResponse is J3, each step by itself.
func isResponse(c api.Coefs, z complex128) (over, under complex128) {
	over = isProduct(complex(c.B0, 0), z)
	over = isSum(over, complex(c.B1, 0))
	over = isProduct(over, z)
	over = isSum(over, complex(c.B2, 0))
	under = isProduct(complex(1, 0), z)
	under = isSum(under, complex(c.A1, 0))
	under = isProduct(under, z)
	under = isSum(under, complex(c.A2, 0))
	return over, under
}

func answers(t *testing.T, c api.Coefs, z complex128) {
	t.Helper()
	over, under := filter.Response(c, z)
	wantOver, wantUnder := isResponse(c, z)
	if !samePoint(over, wantOver) || !samePoint(under, wantUnder) {
		t.Fatalf("%x at %x: %x %x, not %x %x", c, z, over, under, wantOver, wantUnder)
	}
}

func TestJ3Examples(t *testing.T) {
	c := api.Coefs{B0: 2, B1: 3, B2: 5, A1: 7, A2: 11}
	for _, x := range []struct{ z, over, under complex128 }{
		{0, 5, 11}, {1, 10, 19}, {-1, 4, 5}, {1i, 3 + 3i, 10 + 7i}, {-1i, 3 - 3i, 10 - 7i}, {2 + 1i, 17 + 11i, 28 + 11i},
	} {
		if over, under := filter.Response(c, x.z); over != x.over || under != x.under {
			t.Errorf("at %v: %v %v, not %v %v", x.z, over, under, x.over, x.under)
		}
	}
	over, under := filter.Response(api.Coefs{B0: 0.3, B1: -0x1.3333333333333p-03, B2: 0x1.4666666666666p-02, A1: -1, A2: 0.5}, complex(0.6, 0.8))
	if over != complex(0x1.2872b020c49b9p-03, 0x1.5810624dd2f1ap-03) || under != complex(-0x1.851eb851eb854p-02, 0x1.47ae147ae1478p-03) {
		t.Errorf("%x %x", over, under)
	}
}

// TestJ3Nought: what is designed is nothing at its zero and at its pole, and at their mirror images.
func TestJ3Nought(t *testing.T) {
	c, err := filter.Design(api.Pole{Re: 1 << 29, Im: 1 << 29}, api.Pole{Re: -1 << 28, Im: 3 << 28}, 3)
	if err != api.OK {
		t.Fatal(err)
	}
	for _, z := range []complex128{complex(-0.25, 0.75), complex(-0.25, -0.75)} {
		if over, under := filter.Response(c, z); over != 0 || under == 0 {
			t.Errorf("at the zero %v: %v %v", z, over, under)
		}
	}
	for _, z := range []complex128{complex(0.5, 0.5), complex(0.5, -0.5)} {
		if over, under := filter.Response(c, z); over == 0 || under != 0 {
			t.Errorf("at the pole %v: %v %v", z, over, under)
		}
	}
}

// drawn is a number of any size, either way.
func drawn(r *rand.Rand) float64 {
	return (2*r.Float64() - 1) * math.Ldexp(1, r.Intn(60)-30)
}

func TestJ3Drawn(t *testing.T) {
	r := rand.New(rand.NewSource(3))
	for range 5000 {
		c := api.Coefs{B0: drawn(r), B1: drawn(r), B2: drawn(r), A1: drawn(r), A2: drawn(r)}
		answers(t, c, complex(drawn(r), drawn(r)))
		at := 2 * math.Pi * r.Float64()
		answers(t, c, complex(math.Cos(at), math.Sin(at)))
	}
}

// oddNumbers are those of which nothing is said, so that they are right too.
func oddNumbers() []float64 {
	return []float64{
		0, math.Copysign(0, -1), 1, -1, 0.1, math.SmallestNonzeroFloat64, -0x1p-1022, 0x1.fffffffffffffp+500, math.MaxFloat64, -math.MaxFloat64,
		math.Inf(1), math.Inf(-1), math.NaN(),
	}
}

// TestJ3Odd: all that floats can be is answered, whatever a filter may be made of.
func TestJ3Odd(t *testing.T) {
	r := rand.New(rand.NewSource(33))
	odd := oddNumbers()
	pick := func() float64 { return odd[r.Intn(len(odd))] }
	for _, re := range odd {
		for _, im := range odd {
			answers(t, api.Coefs{}, complex(re, im))
			for range 20 {
				answers(t, api.Coefs{B0: pick(), B1: pick(), B2: pick(), A1: pick(), A2: pick()}, complex(re, im))
			}
		}
	}
}
