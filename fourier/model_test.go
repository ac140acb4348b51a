package fourier_test

import (
	"math"
	"math/big"
	"math/rand"
	"strconv"
	"strings"
	"testing"
)

// exact has room for each sum and product of two floats, so that what comes of it is rounded once, by whole numbers alone.
func exact() *big.Float { return new(big.Float).SetPrec(2200) }

func float(x float64) *big.Float { return exact().SetFloat64(x) }

func rounded(x *big.Float) float64 {
	out, _ := x.Float64()
	return out
}

func finite(l ...float64) bool {
	for _, x := range l {
		if math.IsNaN(x) || math.IsInf(x, 0) {
			return false
		}
	}
	return true
}

// Beyond the finite numbers nothing is rounded: there the machine's own sums and products do.

func sum(x, y float64) float64 {
	if !finite(x, y) {
		return x + y
	}
	return rounded(exact().Add(float(x), float(y)))
}

func difference(x, y float64) float64 {
	if !finite(x, y) {
		return x - y
	}
	return rounded(exact().Sub(float(x), float(y)))
}

func product(x, y float64) float64 {
	if !finite(x, y) {
		return x * y
	}
	return rounded(exact().Mul(float(x), float(y)))
}

// isSum, isDifference and isProduct are those of chapter 14.
func isSum(z, w complex128) complex128 {
	return complex(sum(real(z), real(w)), sum(imag(z), imag(w)))
}

func isDifference(z, w complex128) complex128 {
	return complex(difference(real(z), real(w)), difference(imag(z), imag(w)))
}

func isProduct(z, w complex128) complex128 {
	a, b, c, d := real(z), imag(z), real(w), imag(w)
	return complex(difference(product(a, c), product(b, d)), sum(product(a, d), product(b, c)))
}

// rootTable is that of Q2, as it stands there.
const rootTable = `
| 2 | (-1, 0) |
| 4 | (0, -1) |
| 8 | (0x1.6a09e667f3bcdp-1, -0x1.6a09e667f3bcdp-1) |
| 16 | (0x1.d906bcf328d46p-1, -0x1.87de2a6aea963p-2) |
| 32 | (0x1.f6297cff75cbp-1, -0x1.8f8b83c69a60ap-3) |
| 64 | (0x1.fd88da3d12526p-1, -0x1.917a6bc29b42cp-4) |
| 128 | (0x1.ff621e3796d7ep-1, -0x1.91f65f10dd814p-5) |
| 256 | (0x1.ffd886084cd0dp-1, -0x1.92155f7a3667ep-6) |
| 512 | (0x1.fff62169b92dbp-1, -0x1.921d1fcdec784p-7) |
| 1024 | (0x1.fffd8858e8a92p-1, -0x1.921f0fe670071p-8) |
| 2048 | (0x1.ffff621621d02p-1, -0x1.921f8becca4bap-9) |
| 4096 | (0x1.ffffd88586ee6p-1, -0x1.921faaee6472dp-10) |
`

func isRoot(t *testing.T, n int) complex128 {
	t.Helper()
	_, row, found := strings.Cut(rootTable, "| "+strconv.Itoa(n)+" | (")
	re, row, cut := strings.Cut(row, ", ")
	im, _, closed := strings.Cut(row, ")")
	a, wrongRe := strconv.ParseFloat(re, 64)
	b, wrongIm := strconv.ParseFloat(im, 64)
	if !found || !cut || !closed || wrongRe != nil || wrongIm != nil {
		t.Fatalf("no root of %d", n)
	}
	return complex(a, b)
}

// isApart is Q2, step by step.
func isApart(t *testing.T, in []complex128) []complex128 {
	t.Helper()
	n := len(in)
	if n == 1 {
		return []complex128{in[0]}
	}
	var even, odd []complex128
	for i, z := range in {
		if i%2 == 0 {
			even = append(even, z)
		} else {
			odd = append(odd, z)
		}
	}
	e, o := isApart(t, even), isApart(t, odd)
	out := make([]complex128, n)
	w, root := complex(1, 0), isRoot(t, n)
	for k := 0; k < n/2; k++ {
		turned := isProduct(w, o[k])
		out[k] = isSum(e[k], turned)
		out[k+n/2] = isDifference(e[k], turned)
		w = isProduct(w, root)
	}
	return out
}

// isTogether is Q3, step by step. A quotient by a power of two is a product by its inverse, rounded once too.
func isTogether(t *testing.T, in []complex128) []complex128 {
	t.Helper()
	var mirrored, out []complex128
	for _, z := range in {
		mirrored = append(mirrored, complex(real(z), -imag(z)))
	}
	over := 1 / float64(len(in))
	for _, z := range isApart(t, mirrored) {
		out = append(out, complex(product(real(z), over), product(-imag(z), over)))
	}
	return out
}

// same: bit by bit, so that -0 is not 0; of what is no number it says nothing which one it is.
func same(x, y float64) bool {
	return math.Float64bits(x) == math.Float64bits(y) || math.IsNaN(x) && math.IsNaN(y)
}

func sameAll(t *testing.T, name string, got, want []complex128) {
	t.Helper()
	if len(got) != len(want) {
		t.Fatalf("%s: %d points, not %d", name, len(got), len(want))
	}
	for i := range got {
		if !same(real(got[i]), real(want[i])) || !same(imag(got[i]), imag(want[i])) {
			t.Fatalf("%s: of %d points number %d is %x, not %x", name, len(got), i, got[i], want[i])
		}
	}
}

// sizes are all those that a plan can have.
func sizes() []int { return []int{1, 2, 4, 8, 16, 32, 64, 128, 256, 512, 1024, 2048, 4096} }

// drawnPoints have parts that are small and great, and noughts of either sign.
func drawnPoints(r *rand.Rand, n int) []complex128 {
	part := func() float64 {
		switch r.Intn(8) {
		case 0:
			return 0
		case 1:
			return math.Copysign(0, -1)
		case 2:
			return math.Ldexp(r.NormFloat64(), r.Intn(80)-40)
		case 3:
			return float64(r.Intn(9) - 4)
		}
		return r.NormFloat64()
	}
	out := make([]complex128, n)
	for i := range out {
		out[i] = complex(part(), part())
	}
	return out
}

// oddNumbers are those at the ends of what a float can be.
func oddNumbers() []float64 {
	return []float64{
		0, math.Copysign(0, -1), 1, -1, math.SmallestNonzeroFloat64, -math.SmallestNonzeroFloat64, 0x1p-1022, -0x1.8p-1030,
		math.MaxFloat64, -math.MaxFloat64, 0x1p1023, math.Inf(1), math.Inf(-1), math.NaN(),
	}
}
