package tune_test

import (
	"math"
	"math/big"
	"testing"

	"cantus/api"
	"cantus/pitch"
	"cantus/tune"
)

func at(letter, alter, octave int) api.Pitch {
	return api.Pitch{Letter: letter, Alter: alter, Octave: octave}
}

func rightPitches() []api.Pitch {
	var out []api.Pitch
	for letter := range 7 {
		for alter := -3; alter <= 3; alter++ {
			for octave := -12; octave <= 12; octave++ {
				out = append(out, at(letter, alter, octave))
			}
		}
	}
	return out
}

func wrongPitches() []api.Pitch {
	out := []api.Pitch{at(-1, 0, 4), at(7, 0, 4), at(5, 4, 4), at(5, -4, 4), at(5, 0, 13), at(5, 0, -13)}
	for _, n := range []int{math.MinInt, math.MinInt + 1, -1 << 32, 1 << 32, math.MaxInt} {
		out = append(out, at(n, 0, 4), at(5, n, 4), at(5, 0, n), at(n, n, n))
	}
	return out
}

func rightHertz() []float64 {
	return []float64{1, math.Nextafter(1, 2), 2, 27.5, 261.6255653005986, 415.3, 432, 440, 442.5, 443.1, 1000.0 / 3, 65536, 99999.9, math.Nextafter(100000, 0), 100000}
}

func wrongHertz() []float64 {
	return []float64{
		math.NaN(), -math.NaN(), math.Inf(1), math.Inf(-1), 0, math.Copysign(0, -1), 0.5, math.Nextafter(1, 0), -1, -440,
		math.Nextafter(100000, 200000), 100001, math.MaxFloat64, -math.MaxFloat64, math.SmallestNonzeroFloat64,
	}
}

// float is a number that is rounded as a float64 is, by whole numbers alone.
func float(x float64) *big.Float { return new(big.Float).SetPrec(53).SetFloat64(x) }

func none() *big.Float { return new(big.Float).SetPrec(53) }

// same: bit by bit, so that -0 is not 0.
func same(x, y float64) bool { return math.Float64bits(x) == math.Float64bits(y) }

// allRatios has each interval of which either part of the ratio is at most 2^30, found from fifths and octaves: 3^18 and 2^30 are the last powers that are.
func allRatios() map[api.Interval]api.Frac {
	out := map[api.Interval]api.Frac{}
	for fifths := -18; fifths <= 18; fifths++ {
		for octaves := -60; octaves <= 60; octaves++ {
			r := big.NewRat(1, 1)
			multiply(r, big.NewRat(3, 2), fifths)
			multiply(r, big.NewRat(2, 1), octaves)
			if r.Num().Cmp(big.NewInt(1<<30)) <= 0 && r.Denom().Cmp(big.NewInt(1<<30)) <= 0 {
				i := api.Interval{Steps: 4*fifths + 7*octaves, Halves: 7*fifths + 12*octaves}
				out[i] = api.Frac{Up: int(r.Num().Int64()), Down: int(r.Denom().Int64())}
			}
		}
	}
	return out
}

func multiply(r, by *big.Rat, times int) {
	if times < 0 {
		by, times = new(big.Rat).Inv(by), -times
	}
	for range times {
		r.Mul(r, by)
	}
}

func TestU1Examples(t *testing.T) {
	for _, x := range []struct {
		steps, halves int
		want          api.Frac
		err           api.Errno
	}{
		{0, 0, api.Frac{Up: 1, Down: 1}, api.OK},
		{4, 7, api.Frac{Up: 3, Down: 2}, api.OK},
		{-4, -7, api.Frac{Up: 2, Down: 3}, api.OK},
		{7, 12, api.Frac{Up: 2, Down: 1}, api.OK},
		{-7, -12, api.Frac{Up: 1, Down: 2}, api.OK},
		{3, 5, api.Frac{Up: 4, Down: 3}, api.OK},
		{2, 4, api.Frac{Up: 81, Down: 64}, api.OK},
		{2, 3, api.Frac{Up: 32, Down: 27}, api.OK},
		{-1, 0, api.Frac{Up: 531441, Down: 524288}, api.OK},
		{196, 336, api.Frac{Up: 1 << 28, Down: 1}, api.OK},
		{199, 341, api.Frac{Up: 1 << 30, Down: 3}, api.OK},
		{-199, -341, api.Frac{Up: 3, Down: 1 << 30}, api.OK},
		{195, 334, api.Frac{}, api.ErrMuch}, // 2^31 / 9
		{-12, -18, api.Frac{Up: 387420489, Down: 1 << 30}, api.OK},
		{-19, -30, api.Frac{}, api.ErrMuch}, // 3^18 / 2^31
		{-1, 1, api.Frac{}, api.ErrMuch},    // 3^19 / 2^30
		{0, 4096, api.Frac{}, api.ErrMuch},
		{200, 4096, api.Frac{}, api.ErrMuch},
		{200, -4096, api.Frac{}, api.ErrMuch},
		{-200, 4096, api.Frac{}, api.ErrMuch},
		{-200, -4096, api.Frac{}, api.ErrMuch},
	} {
		if f, err := tune.Ratio(api.Interval{Steps: x.steps, Halves: x.halves}); f != x.want || err != x.err {
			t.Errorf("ratio of %d steps, %d halves: %v %d, not %v %d", x.steps, x.halves, f, err, x.want, x.err)
		}
	}
}

// TestU1All asks for each interval within bounds, and for those around them.
func TestU1All(t *testing.T) {
	ratios := allRatios()
	found := 0
	for steps := -203; steps <= 203; steps++ {
		for halves := -4099; halves <= 4099; halves++ {
			i := api.Interval{Steps: steps, Halves: halves}
			want, is := ratios[i]
			wantErr := api.OK
			switch {
			case steps < -200 || steps > 200 || halves < -4096 || halves > 4096:
				want, wantErr = api.Frac{}, api.ErrRange
			case !is:
				wantErr = api.ErrMuch
			default:
				found++
			}
			if f, err := tune.Ratio(i); f != want || err != wantErr {
				t.Fatalf("ratio of %v: %v %d, not %v %d", i, f, err, want, wantErr)
			}
		}
	}
	if found < 1000 {
		t.Errorf("%d ratios", found)
	}
}

func TestU1Wrong(t *testing.T) {
	for _, n := range []int{math.MinInt, math.MinInt + 1, -1 << 62, -1 << 32, -4097, 4097, 1 << 32, 1 << 62, math.MaxInt - 1, math.MaxInt} {
		for _, i := range []api.Interval{{Steps: n}, {Halves: n}, {Steps: n, Halves: n}, {Steps: n, Halves: -n}} {
			if f, err := tune.Ratio(i); f != (api.Frac{}) || err != api.ErrRange {
				t.Errorf("ratio of %v: %v %d", i, f, err)
			}
		}
	}
}

func TestU2Examples(t *testing.T) {
	for _, x := range []struct {
		p       api.Pitch
		a, want float64
	}{
		{at(5, 0, 4), 440, 440}, {at(5, 0, 5), 440, 880}, {at(5, 0, 3), 440, 220}, {at(4, 2, 4), 440, 440},
		{at(0, 0, 4), 440, 0x1.05a0250c2b957p+08}, {at(6, 1, 3), 440, 0x1.05a0250c2b957p+08},
		{at(3, 1, 9), 442.5, 0x1.7418bef49bf74p+13}, {at(2, -3, 2), 1, 0x1.428a2f98d728cp-03},
		{at(5, 1, 4), 1, 0x1.0f38f92d97963p+0}, {at(5, 0, -12), 1, 0x1p-16}, {at(5, 0, 12), 100000, 100000 * 256},
	} {
		if got, err := tune.Hertz(x.p, x.a); !same(got, x.want) || err != api.OK {
			t.Errorf("%v by %v: %x %d, not %x", x.p, x.a, got, err, x.want)
		}
	}
}

// isTable is the table, each number rounded by whole numbers alone.
func isTable() []*big.Float {
	out := []*big.Float{float(1)}
	for n := range 11 {
		out = append(out, none().Mul(out[n], float(0x1.0f38f92d97963p+0)))
	}
	return out
}

// TestU2All walks from the A of octave 4, half tone by half tone, to the key of each pitch.
func TestU2All(t *testing.T) {
	numbers := isTable()
	for _, p := range rightPitches() {
		key, _ := pitch.Key(p)
		o, r := 0, 0
		for ; 69+12*o+r < key; r++ {
			if r == 11 {
				o, r = o+1, -1
			}
		}
		for ; 69+12*o+r > key; r-- {
			if r == 0 {
				o, r = o-1, 12
			}
		}
		for _, a := range rightHertz() {
			exact := none().Mul(float(a), numbers[r])
			want, _ := exact.SetMantExp(exact, o).Float64()
			if got, err := tune.Hertz(p, a); !same(got, want) || err != api.OK {
				t.Fatalf("%v by %v: %x %d, not %x", p, a, got, err, want)
			}
		}
	}
}

// TestU2Wrong: what is wrong with the pitch is told ahead of what is wrong with a.
func TestU2Wrong(t *testing.T) {
	tells := func(p api.Pitch, a float64, want api.Errno) {
		t.Helper()
		if got, err := tune.Hertz(p, a); !same(got, 0) || err != want {
			t.Errorf("%v by %v: %x %d, not %d", p, a, got, err, want)
		}
	}
	for _, p := range wrongPitches() {
		for _, a := range append(rightHertz(), wrongHertz()...) {
			tells(p, a, api.ErrForm)
		}
	}
	for _, p := range rightPitches() {
		for _, a := range wrongHertz() {
			tells(p, a, api.ErrRange)
		}
	}
}

func TestU3Examples(t *testing.T) {
	for _, x := range []struct {
		p       api.Pitch
		a, want float64
		err     api.Errno
	}{
		{at(5, 0, 4), 440, 440, api.OK}, {at(5, 0, 5), 440, 880, api.OK}, {at(2, 0, 5), 440, 660, api.OK}, {at(1, 0, 4), 432, 288, api.OK},
		{at(0, 0, 4), 440, 0x1.04bda12f684bep+08, api.OK}, {at(6, 1, 3), 440, 0x1.084c5p+08, api.OK},
		{at(0, 0, 4), 100000, 0x1.cef684bda12f7p+15, api.OK}, {at(3, 1, 9), 1, 27, api.OK},
		{at(2, -3, 2), 440, 0, api.ErrMuch},
	} {
		if got, err := tune.Tempered(x.p, x.a); !same(got, x.want) || err != x.err {
			t.Errorf("%v by %v: %x %d, not %x %d", x.p, x.a, got, err, x.want, x.err)
		}
	}
}

func TestU3All(t *testing.T) {
	ratios := allRatios()
	much := 0
	for _, p := range rightPitches() {
		key, _ := pitch.Key(p)
		ratio, is := ratios[api.Interval{Steps: 7*p.Octave + p.Letter - 33, Halves: key - 69}]
		for _, a := range rightHertz() {
			want, wantErr := 0.0, api.ErrMuch
			if is {
				product := none().Mul(float(a), float(float64(ratio.Up)))
				want, _ = none().Quo(product, float(float64(ratio.Down))).Float64()
				wantErr = api.OK
			} else {
				much++
			}
			if got, err := tune.Tempered(p, a); !same(got, want) || err != wantErr {
				t.Fatalf("%v by %v: %x %d, not %x %d", p, a, got, err, want, wantErr)
			}
		}
	}
	if much == 0 {
		t.Error("no pitch is too far")
	}
}

// TestU3Wrong: what is wrong with a is told ahead of what is wrong with the pitch.
func TestU3Wrong(t *testing.T) {
	tells := func(p api.Pitch, a float64, want api.Errno) {
		t.Helper()
		if got, err := tune.Tempered(p, a); !same(got, 0) || err != want {
			t.Errorf("%v by %v: %x %d, not %d", p, a, got, err, want)
		}
	}
	for _, a := range wrongHertz() {
		for _, p := range append(rightPitches(), wrongPitches()...) {
			tells(p, a, api.ErrRange)
		}
	}
	for _, p := range wrongPitches() {
		for _, a := range rightHertz() {
			tells(p, a, api.ErrForm)
		}
	}
}
