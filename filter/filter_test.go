package filter_test

import (
	"math"
	"math/rand"
	"slices"
	"testing"

	"cantus/api"
	"cantus/filter"
)

func begin(t *testing.T, c api.Coefs) *filter.Filter {
	t.Helper()
	f, err := filter.New(c)
	if err != api.OK || f == nil {
		t.Fatalf("%+v: %v %d", c, f, err)
	}
	return f
}

// isRun is J4 from rest on, each step by itself.
func isRun(c api.Coefs, in []float64) []float64 {
	var out []float64
	ahead := func(l []float64, i int) float64 {
		if i < 0 {
			return 0
		}
		return l[i]
	}
	for i, x := range in {
		y := sum(product(c.B0, x), product(c.B1, ahead(in, i-1)))
		y = sum(y, product(c.B2, ahead(in, i-2)))
		y = difference(y, product(c.A1, ahead(out, i-1)))
		y = difference(y, product(c.A2, ahead(out, i-2)))
		out = append(out, y)
	}
	return out
}

func sameAll(t *testing.T, name string, got, want []float64) {
	t.Helper()
	if len(got) != len(want) {
		t.Fatalf("%s: %d numbers, not %d", name, len(got), len(want))
	}
	for i := range got {
		if !same(got[i], want[i]) {
			t.Fatalf("%s: number %d is %x, not %x", name, i, got[i], want[i])
		}
	}
}

// some coefficients that do not blow up, and n numbers.
func someCoefs() api.Coefs { return api.Coefs{B0: 0.1, B1: 0.2, B2: -0.3, A1: -0.7, A2: 0.4} }

func someNumbers(seed int64, n int) []float64 {
	r := rand.New(rand.NewSource(seed))
	var out []float64
	for range n {
		out = append(out, 2*r.Float64()-1)
	}
	return out
}

// withOne has x as one of the five, and all others right.
func withOne(i int, x float64) api.Coefs {
	c := someCoefs()
	*[]*float64{&c.B0, &c.B1, &c.B2, &c.A1, &c.A2}[i] = x
	return c
}

func TestJ4Right(t *testing.T) {
	begin(t, api.Coefs{})
	begin(t, api.Coefs{B0: 1 << 22, B1: 1 << 22, B2: 1 << 22, A1: 1 << 22, A2: 1 << 22})
	for i := range 5 {
		for _, x := range []float64{4194304, -4194304, math.Nextafter(4194304, 0), 1048577, -1048577, 0, math.Copysign(0, -1), math.SmallestNonzeroFloat64} {
			c := withOne(i, x)
			sameAll(t, "an edge", begin(t, c).Run([]float64{1, -0.3, 0.7, 5}), isRun(c, []float64{1, -0.3, 0.7, 5}))
		}
	}
}

func TestJ4Wrong(t *testing.T) {
	over := math.Nextafter(4194304, math.Inf(1))
	for i := range 5 {
		for _, x := range []float64{over, -over, 4194304.5, -4194305, math.MaxFloat64, -math.MaxFloat64, math.Inf(1), math.Inf(-1), math.NaN(), -math.NaN()} {
			if f, err := filter.New(withOne(i, x)); f != nil || err != api.ErrRange {
				t.Errorf("%v as number %d: %v %d", x, i, f, err)
			}
		}
	}
}

func TestJ4Examples(t *testing.T) {
	for _, x := range []struct {
		name     string
		c        api.Coefs
		in, want []float64
	}{
		{"as it is", api.Coefs{B0: 1}, []float64{1, 2, -3, 4}, []float64{1, 2, -3, 4}},
		{"one later", api.Coefs{B1: 1}, []float64{1, 2, -3, 4}, []float64{0, 1, 2, -3}},
		{"two later", api.Coefs{B2: 2}, []float64{1, 2, -3, 4}, []float64{0, 0, 2, 4}},
		{"all that came", api.Coefs{B0: 1, A1: -1}, []float64{1, 2, -3, 4}, []float64{1, 3, 0, 4}},
		{"every other one", api.Coefs{B0: 1, A2: 1}, []float64{1, 0, 0, 0, 0}, []float64{1, 0, -1, 0, 1}},
		{"all at once", api.Coefs{B0: 2, B1: 3, B2: 5, A1: 1, A2: -1}, []float64{1, 1, 0, 0}, []float64{2, 3, 7, 1}},
		{"none", api.Coefs{B0: 1}, nil, nil},
		{"one behind the other", someCoefs(), []float64{1, 0, 0, 0.5, -1, 3}, []float64{
			0x1.999999999999ap-04, 0x1.147ae147ae148p-02, -0x1.353f7ced91687p-03, -0x1.4f41f212d7732p-03, -0x1.bbecaab8a5ce5p-05, -0x1.6fdeb52c9d16p-06,
		}},
	} {
		sameAll(t, x.name, begin(t, x.c).Run(x.in), x.want)
	}
}

// TestJ4Order: what is added sooner, and what later, is seen where numbers are far apart.
func TestJ4Order(t *testing.T) {
	big := 0x1p60
	for _, x := range []struct {
		c        api.Coefs
		in, want []float64
	}{
		// 1 is lost in the first sum, though what comes behind takes the great number away again.
		{api.Coefs{B0: 1, B1: 1, B2: 1}, []float64{-big, big, 1}, []float64{-big, 0, 0}},
		{api.Coefs{B0: 1, B1: 1, B2: 1}, []float64{1, big, -big}, []float64{1, big, 1}},
		{api.Coefs{B0: 1, B1: 1, A1: 1}, []float64{big, 1}, []float64{big, 0}},
		{api.Coefs{B0: 1, B2: 1, A1: 1}, []float64{1, -big, -big}, []float64{1, -big, 0}},
		{api.Coefs{B0: 1, A1: 1, A2: 1}, []float64{1, big, big}, []float64{1, big, -1}},
	} {
		sameAll(t, "by hand", begin(t, x.c).Run(x.in), x.want)
	}
}

func TestJ4Drawn(t *testing.T) {
	r := rand.New(rand.NewSource(4))
	coef := func() float64 { return (2*r.Float64() - 1) * math.Ldexp(1, r.Intn(43)-20) }
	for range 300 {
		c := api.Coefs{B0: coef(), B1: coef(), B2: coef(), A1: coef(), A2: coef()}
		var in []float64
		for range 30 {
			in = append(in, drawn(r))
		}
		sameAll(t, "drawn", begin(t, c).Run(in), isRun(c, in))
	}
	for range 100 {
		pole := api.Pole{Re: r.Intn(1<<31-1) - 1<<30 + 1}
		pole.Im = rim(pole.Re).Im
		c, err := filter.Design(pole, api.Pole{Re: r.Intn(1 << 31), Im: -r.Intn(1 << 31)}, drawn(r)/(1<<30))
		if err != api.OK {
			t.Fatalf("%v: %d", pole, err)
		}
		in := someNumbers(r.Int63(), 100)
		sameAll(t, "designed", begin(t, c).Run(in), isRun(c, in))
	}
}

// TestJ4Odd: whatever floats can be comes in, and what is no number stays until it is brought to rest.
func TestJ4Odd(t *testing.T) {
	r := rand.New(rand.NewSource(44))
	odd := oddNumbers()
	for i := range 2000 {
		c := withOne(i%5, []float64{0, math.Copysign(0, -1), -0.5, 4194304}[r.Intn(4)])
		var in []float64
		for range 6 {
			in = append(in, odd[r.Intn(len(odd))])
		}
		f := begin(t, c)
		sameAll(t, "odd", f.Run(in), isRun(c, in))
		f.Rest()
		sameAll(t, "at rest again", f.Run([]float64{1, 2, 3}), isRun(c, []float64{1, 2, 3}))
	}
	f := begin(t, someCoefs())
	for i, y := range f.Run([]float64{0, math.NaN(), 0, 0, 0, 0, 0}) {
		if math.IsNaN(y) != (i >= 1) {
			t.Errorf("number %d is %v", i, y)
		}
	}
}

// TestJ4Noughts: at rest it is 0 that came ahead, not -0.
func TestJ4Noughts(t *testing.T) {
	nought := math.Copysign(0, -1)
	in := []float64{nought, nought, nought, nought}
	for _, c := range []api.Coefs{{}, {B0: 1}, {B0: 1, B1: 1}, {B0: 1, B1: -1, B2: -1, A1: 1, A2: 1}, {B0: 1, B1: nought, B2: nought}, {B0: nought, A1: -1}} {
		f := begin(t, c)
		sameAll(t, "from the beginning", f.Run(in), isRun(c, in))
		f.Run([]float64{-1, -2})
		f.Rest()
		sameAll(t, "from rest", f.Run(in), isRun(c, in))
	}
}

// TestJ4Cut: a filter goes on where it was, however what comes in is cut.
func TestJ4Cut(t *testing.T) {
	c, in := someCoefs(), someNumbers(5, 40)
	want := isRun(c, in)
	for size := 1; size <= len(in); size++ {
		f := begin(t, c)
		var got []float64
		for l := range slices.Chunk(in, size) {
			got = append(got, f.Run(l)...)
			for _, none := range [][]float64{nil, {}, in[:0]} {
				if l := f.Run(none); len(l) != 0 {
					t.Fatalf("of nothing comes %v", l)
				}
			}
		}
		sameAll(t, "cut", got, want)
	}
}

// TestJ4Rest brings it to rest behind each number of those that come.
func TestJ4Rest(t *testing.T) {
	c, in := someCoefs(), someNumbers(6, 12)
	for n := range len(in) + 1 {
		f := begin(t, c)
		sameAll(t, "ahead of rest", f.Run(in[:n]), isRun(c, in[:n]))
		f.Rest()
		if n%2 == 0 {
			f.Rest()
		}
		sameAll(t, "behind it", f.Run(in), isRun(c, in))
	}
}

// TestJ4Lists: what is handed in is only read, and not kept; what is answered is new.
func TestJ4Lists(t *testing.T) {
	c, all := someCoefs(), someNumbers(7, 30)
	room := slices.Clone(all)
	f := begin(t, c)
	var got []float64
	for i := 0; i < len(room); i += 3 {
		in := room[i : i+3]
		out := f.Run(in)
		if !slices.Equal(room[i:], all[i:]) {
			t.Fatalf("what is handed in, or stands behind it, has changed")
		}
		got = append(got, out...)
		for k := range in {
			in[k] = 99
		}
		out = out[:cap(out)]
		for k := range out {
			out[k] = 77
		}
		for _, x := range in {
			if x != 99 {
				t.Fatalf("an answer lies where something was handed in")
			}
		}
	}
	sameAll(t, "lists", got, isRun(c, all))
}

// TestJ4Alone: filters do not know of one another.
func TestJ4Alone(t *testing.T) {
	c, d := someCoefs(), api.Coefs{B0: -1, B1: 0.5, B2: 0.25, A1: 0.9, A2: 0.3}
	in := someNumbers(8, 30)
	f, g, h := begin(t, c), begin(t, d), begin(t, c)
	var one, two, three []float64
	for i, x := range in {
		one = append(one, f.Run(in[i:i+1])...)
		two = append(two, g.Run([]float64{x})...)
		if i == 10 {
			h.Rest()
		}
		three = append(three, h.Run([]float64{x})...)
	}
	sameAll(t, "the first", one, isRun(c, in))
	sameAll(t, "the second", two, isRun(d, in))
	sameAll(t, "the third", three, append(isRun(c, in[:10]), isRun(c, in[10:])...))
}
