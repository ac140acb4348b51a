package fourier_test

import (
	"math"
	"math/cmplx"
	"math/rand"
	"slices"
	"sync"
	"testing"

	"cantus/api"
	"cantus/fourier"
)

func planFor(t *testing.T, n int) *fourier.Plan {
	t.Helper()
	p, err := fourier.New(n)
	if err != api.OK || p == nil {
		t.Fatalf("a plan for %d points: %v %d", n, p, err)
	}
	return p
}

func apart(t *testing.T, p *fourier.Plan, in []complex128) []complex128 {
	t.Helper()
	out, err := p.Apart(in)
	if err != api.OK {
		t.Fatalf("%d points apart: %d", len(in), err)
	}
	return out
}

func together(t *testing.T, p *fourier.Plan, in []complex128) []complex128 {
	t.Helper()
	out, err := p.Together(in)
	if err != api.OK {
		t.Fatalf("%d points together: %d", len(in), err)
	}
	return out
}

func TestQ1Sizes(t *testing.T) {
	for n := -100; n <= 3*4096; n++ {
		p, err := fourier.New(n)
		switch right := slices.Contains(sizes(), n); {
		case right && (p == nil || err != api.OK):
			t.Errorf("a plan for %d points: %v %d", n, p, err)
		case !right && (p != nil || err != api.ErrFit):
			t.Errorf("no plan for %d points: %v %d", n, p, err)
		}
	}
	for _, n := range []int{math.MinInt, math.MinInt + 1, -1 << 32, -4096, 1 << 14, 1 << 31, 1 << 32, 1<<32 + 1, 1 << 62, math.MaxInt} {
		if p, err := fourier.New(n); p != nil || err != api.ErrFit {
			t.Errorf("no plan for %d points: %v %d", n, p, err)
		}
	}
}

// TestQ1Several has many goroutines ask one plan at the same time, and all of them be the first ones.
func TestQ1Several(t *testing.T) {
	for _, n := range []int{1, 2, 64, 4096} {
		r := rand.New(rand.NewSource(int64(n)))
		in := drawnPoints(r, n)
		quiet := planFor(t, n)
		wantApart, wantTogether := apart(t, quiet, in), together(t, quiet, in)
		p := planFor(t, n)
		const many = 16
		var outs [2 * many][]complex128
		var errs [2 * many]api.Errno
		var all sync.WaitGroup
		begin := make(chan bool)
		for i := range many {
			all.Go(func() {
				<-begin
				outs[2*i], errs[2*i] = p.Apart(in)
				outs[2*i+1], errs[2*i+1] = p.Together(in)
			})
		}
		close(begin)
		all.Wait()
		for i := range many {
			if errs[2*i] != api.OK || errs[2*i+1] != api.OK {
				t.Fatalf("of several: %d %d", errs[2*i], errs[2*i+1])
			}
			sameAll(t, "apart by several", outs[2*i], wantApart)
			sameAll(t, "together by several", outs[2*i+1], wantTogether)
		}
	}
}

func TestQ2Examples(t *testing.T) {
	const root = 0x1.6a09e667f3bcdp-1
	for _, x := range []struct {
		name     string
		in, want []complex128
	}{
		{"one point", []complex128{3 - 4i}, []complex128{3 - 4i}},
		{"two points", []complex128{1, 2i}, []complex128{1 + 2i, 1 - 2i}},
		{"a step", []complex128{1, 1, 1, 1}, []complex128{4, 0, 0, 0}},
		{"four points", []complex128{1, 2, 3, 4}, []complex128{10, -2 + 2i, -2, -2 - 2i}},
		{"a wave", []complex128{1, 1i, -1, -1i}, []complex128{0, 4, 0, 0}},
		{"the root of 8", []complex128{0, 1, 0, 0, 0, 0, 0, 0}, []complex128{
			1, complex(root, -root), complex(0, -0x1.0000000000001p0), complex(-0x1.6a09e667f3bcep-1, -0x1.6a09e667f3bcep-1),
			-1, complex(-root, root), complex(0, 0x1.0000000000001p0), complex(0x1.6a09e667f3bcep-1, 0x1.6a09e667f3bcep-1),
		}},
	} {
		sameAll(t, x.name, apart(t, planFor(t, len(x.in)), x.in), x.want)
	}
}

// TestQ2Noughts: w_0 multiplies like any other one, which is seen by signs of noughts and by what is infinite.
func TestQ2Noughts(t *testing.T) {
	minus, inf, none := math.Copysign(0, -1), math.Inf(1), math.NaN()
	for _, x := range []struct {
		name     string
		in, want []complex128
	}{
		{"one point", []complex128{complex(minus, minus)}, []complex128{complex(minus, minus)}},
		{"one infinite point", []complex128{complex(-inf, none)}, []complex128{complex(-inf, none)}},
		{"two noughts", []complex128{complex(minus, minus), complex(minus, minus)}, []complex128{complex(0, minus), complex(minus, 0)}},
		{"the second infinite", []complex128{0, complex(inf, 1)}, []complex128{complex(inf, none), complex(-inf, none)}},
		{"the first infinite", []complex128{complex(inf, 1), 0}, []complex128{complex(inf, 1), complex(inf, 1)}},
	} {
		sameAll(t, x.name, apart(t, planFor(t, len(x.in)), x.in), x.want)
	}
}

// TestQ2Waves takes a point apart that stands alone at each place: then it is the waves themselves that come.
func TestQ2Waves(t *testing.T) {
	for _, n := range sizes() {
		p := planFor(t, n)
		for _, i := range []int{0, 1, 2, 3, n / 4, n / 2, n - 1} {
			if i >= n {
				continue
			}
			in := make([]complex128, n)
			in[i] = 1
			out := apart(t, p, in)
			if i <= 1 || n <= 256 {
				sameAll(t, "a point alone", out, isApart(t, in))
			}
			for k, z := range out {
				if want := cmplx.Rect(1, -2*math.Pi*float64(i*k%n)/float64(n)); cmplx.Abs(z-want) > 1e-12 {
					t.Fatalf("of %d points with a 1 at %d number %d is %v, not about %v", n, i, k, z, want)
				}
			}
		}
	}
}

func TestQ2Drawn(t *testing.T) {
	r := rand.New(rand.NewSource(2))
	for _, n := range sizes() {
		p := planFor(t, n)
		for range max(1, 512/n) {
			in := drawnPoints(r, n)
			sameAll(t, "drawn", apart(t, p, in), isApart(t, in))
		}
	}
}

// TestQ2Odd: whatever floats can be comes in.
func TestQ2Odd(t *testing.T) {
	r := rand.New(rand.NewSource(22))
	odd := oddNumbers()
	for i := range 600 {
		n := 1 << (i % 6)
		in := drawnPoints(r, n)
		for range 1 + r.Intn(n) {
			in[r.Intn(n)] = complex(odd[r.Intn(len(odd))], odd[r.Intn(len(odd))])
		}
		p := planFor(t, n)
		sameAll(t, "odd, apart", apart(t, p, in), isApart(t, in))
		sameAll(t, "odd, together", together(t, p, in), isTogether(t, in))
	}
}

// TestQ2Q3Wrong: what is refused has no points, and leaves the plan as it was.
func TestQ2Q3Wrong(t *testing.T) {
	r := rand.New(rand.NewSource(23))
	for _, n := range sizes() {
		p, in := planFor(t, n), drawnPoints(r, n)
		for _, many := range []int{0, 1, n - 1, n + 1, n / 2, 2 * n, 3, 4096, 8192} {
			if many == n {
				continue
			}
			wrong := drawnPoints(r, many)
			if out, err := p.Apart(wrong); len(out) != 0 || err != api.ErrFit {
				t.Errorf("%d points of %d apart: %d of them, %d", many, n, len(out), err)
			}
			if out, err := p.Together(wrong); len(out) != 0 || err != api.ErrFit {
				t.Errorf("%d points of %d together: %d of them, %d", many, n, len(out), err)
			}
		}
		if out, err := p.Apart(nil); len(out) != 0 || err != api.ErrFit {
			t.Errorf("nothing of %d apart: %d of them, %d", n, len(out), err)
		}
		if out, err := p.Together(nil); len(out) != 0 || err != api.ErrFit {
			t.Errorf("nothing of %d together: %d of them, %d", n, len(out), err)
		}
		fresh := planFor(t, n)
		sameAll(t, "apart behind wrong ones", apart(t, p, in), apart(t, fresh, in))
		sameAll(t, "together behind wrong ones", together(t, p, in), together(t, fresh, in))
	}
}

func TestQ3Examples(t *testing.T) {
	minus := math.Copysign(0, -1)
	for _, x := range []struct {
		name     string
		in, want []complex128
	}{
		{"one point", []complex128{complex(minus, minus)}, []complex128{complex(minus, minus)}},
		{"one point", []complex128{3 - 4i}, []complex128{3 - 4i}},
		{"two points", []complex128{1 + 2i, 1 - 2i}, []complex128{complex(1, minus), 2i}},
		{"one wave", []complex128{0, 4, 0, 0}, []complex128{complex(1, minus), 1i, complex(-1, minus), -1i}},
		{"four points", []complex128{10, -2 + 2i, -2, -2 - 2i}, []complex128{complex(1, minus), complex(2, minus), 3, complex(4, minus)}},
		// Over n at the end, not ahead: what is too great on the way stays so, and what is small is not lost.
		{"too great", []complex128{0x1p1023, 0x1p1023}, []complex128{complex(math.Inf(1), minus), 0}},
		{"small", []complex128{0x1p-1074, 0x1p-1074}, []complex128{complex(0x1p-1074, minus), 0}},
	} {
		sameAll(t, x.name, together(t, planFor(t, len(x.in)), x.in), x.want)
	}
}

func TestQ3Drawn(t *testing.T) {
	r := rand.New(rand.NewSource(3))
	for _, n := range sizes() {
		p := planFor(t, n)
		for range max(1, 512/n) {
			in := drawnPoints(r, n)
			sameAll(t, "drawn", together(t, p, in), isTogether(t, in))
		}
	}
}

// TestQ3Back: what was taken apart comes back, but for what is rounded.
func TestQ3Back(t *testing.T) {
	r := rand.New(rand.NewSource(33))
	for _, n := range sizes() {
		p := planFor(t, n)
		in := make([]complex128, n)
		for i := range in {
			in[i] = complex(2*r.Float64()-1, 2*r.Float64()-1)
		}
		for i, z := range together(t, p, apart(t, p, in)) {
			if cmplx.Abs(z-in[i]) > 1e-11 {
				t.Errorf("of %d points number %d comes back as %v, not %v", n, i, z, in[i])
			}
		}
	}
}

// TestE2Lists: what is handed in is only read, and not kept; what is answered is new.
func TestE2Lists(t *testing.T) {
	r := rand.New(rand.NewSource(9))
	for _, n := range sizes() {
		p, fresh := planFor(t, n), planFor(t, n)
		for i := range 4 {
			room := drawnPoints(r, 2*n)
			was := slices.Clone(room)
			do := p.Apart
			want := apart(t, fresh, was[:n])
			if i%2 == 1 {
				do = p.Together
				want = together(t, fresh, was[:n])
			}
			out, err := do(room[:n])
			if err != api.OK {
				t.Fatalf("%d points: %d", n, err)
			}
			sameAll(t, "what is handed in, and behind it", room, was)
			for k := range room {
				room[k] = 99
			}
			sameAll(t, "an answer, behind a change of what was handed in", out, want)
			// The plan is asked again: nothing of an answer is kept.
			out = out[:cap(out)]
			for k := range out {
				out[k] = 77
			}
			for _, z := range room {
				if z != 99 {
					t.Fatalf("an answer lies where something was handed in")
				}
			}
		}
	}
}

// TestE1Alone: plans do not know of one another, nor of what they were asked ahead.
func TestE1Alone(t *testing.T) {
	r := rand.New(rand.NewSource(10))
	small, great, other := planFor(t, 8), planFor(t, 64), planFor(t, 8)
	for range 20 {
		a, b := drawnPoints(r, 8), drawnPoints(r, 64)
		sameAll(t, "the small one", together(t, small, a), isTogether(t, a))
		sameAll(t, "the great one", apart(t, great, b), isApart(t, b))
		sameAll(t, "the other one", apart(t, other, a), isApart(t, a))
		sameAll(t, "the small one again", apart(t, small, a), isApart(t, a))
	}
}
