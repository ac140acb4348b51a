package frac_test

import (
	"math"
	"math/big"
	"testing"

	"cantus/api"
	"cantus/frac"
)

const (
	most     = api.MaxPart
	beyond   = api.MaxPart + 1
	prime    = 1073741789 // the greatest prime below 2^30
	leastInt = math.MinInt
	mostInt  = math.MaxInt
)

func f(up, down int) api.Frac { return api.Frac{Up: up, Down: down} }

type pair func(a, b api.Frac) (api.Frac, api.Errno)

func pairs() map[string]pair {
	return map[string]pair{"Plus": frac.Plus, "Minus": frac.Minus, "Times": frac.Times, "Over": frac.Over}
}

// edgeParts are whole numbers near all bounds that the chapter and the language name.
func edgeParts() []int {
	return []int{
		leastInt, leastInt + 1, leastInt / 2, -1 << 40, -beyond - 1, -beyond, -most, -most + 1, -prime, -1 << 29, -6, -5, -4, -3, -2, -1, 0,
		1, 2, 3, 4, 5, 6, 1 << 29, prime, most - 1, most, beyond, beyond + 1, 1 << 31, 1 << 32, 1 << 40, 1 << 60, mostInt / 2, mostInt - 1, mostInt,
	}
}

func wrongFracs() []api.Frac {
	return []api.Frac{
		{}, f(1, 0), f(0, 2), f(0, most), f(0, -1), f(2, 4), f(-2, 4), f(6, 3), f(most, 2), f(most, most),
		f(1, -1), f(-1, -2), f(beyond, 1), f(-beyond, 1), f(1, beyond), f(beyond, beyond),
		f(leastInt, 1), f(mostInt, 1), f(1, leastInt), f(1, mostInt), f(leastInt, leastInt), f(leastInt, -1), f(leastInt, mostInt), f(0, leastInt),
	}
}

// rightFracs are all fractions whose parts are edges or small, found without the package.
func rightFracs() []api.Frac {
	var out []api.Frac
	for _, up := range edgeParts() {
		for _, down := range edgeParts() {
			if isRight(up, down) {
				out = append(out, f(up, down))
			}
		}
	}
	return out
}

func isRight(up, down int) bool {
	if down < 1 || down > most || up > most || up < -most {
		return false
	}
	r := rat(f(up, down))
	return r.Num().Int64() == int64(up) && r.Denom().Int64() == int64(down)
}

func rat(x api.Frac) *big.Rat { return big.NewRat(int64(x.Up), int64(x.Down)) }

// told is what a number without bounds must be told as.
func told(r *big.Rat) (api.Frac, api.Errno) {
	bound := big.NewInt(most)
	if r.Num().CmpAbs(bound) > 0 || r.Denom().Cmp(bound) > 0 {
		return api.Frac{}, api.ErrMuch
	}
	return f(int(r.Num().Int64()), int(r.Denom().Int64())), api.OK
}

func TestF1Right(t *testing.T) {
	for _, x := range []api.Frac{f(0, 1), f(1, 1), f(-1, 1), f(-3, 2), f(5, 7), f(most, 1), f(-most, 1), f(1, most), f(-1, most), f(most-1, most), f(most, most-1), f(-most, prime)} {
		if !frac.Right(x) {
			t.Errorf("%v is right", x)
		}
	}
	for _, x := range wrongFracs() {
		if frac.Right(x) {
			t.Errorf("%v is not right", x)
		}
	}
	for _, up := range edgeParts() {
		for _, down := range edgeParts() {
			if got := frac.Right(f(up, down)); got != isRight(up, down) {
				t.Errorf("Right(%d / %d) is %v", up, down, got)
			}
		}
	}
}

func TestF1Make(t *testing.T) {
	for _, c := range []struct {
		up, down int
		want     api.Frac
		err      api.Errno
	}{
		{6, 4, f(3, 2), api.OK},
		{-6, 4, f(-3, 2), api.OK},
		{7, 7, f(1, 1), api.OK},
		{5, 7, f(5, 7), api.OK},
		{0, 1, f(0, 1), api.OK},
		{0, 7, f(0, 1), api.OK},
		{0, mostInt, f(0, 1), api.OK},
		{most, 1, f(most, 1), api.OK},
		{-most, 1, f(-most, 1), api.OK},
		{1, most, f(1, most), api.OK},
		{-1, most, f(-1, most), api.OK},
		{beyond, 1, api.Frac{}, api.ErrMuch},
		{-beyond, 1, api.Frac{}, api.ErrMuch},
		{1, beyond, api.Frac{}, api.ErrMuch},
		{-1, beyond, api.Frac{}, api.ErrMuch},
		{2 * most, 2, f(most, 1), api.OK},
		{-2, 2 * most, f(-1, most), api.OK},
		{2 * beyond, 2, api.Frac{}, api.ErrMuch},
		{2, 2 * beyond, api.Frac{}, api.ErrMuch},
		{leastInt, 1, api.Frac{}, api.ErrMuch},
		{leastInt, 1 << 40, f(-1<<23, 1), api.OK},
		{leastInt, 1 << 33, f(-most, 1), api.OK},
		{leastInt, 1 << 32, api.Frac{}, api.ErrMuch},
		{leastInt, mostInt, api.Frac{}, api.ErrMuch},
		{mostInt, mostInt, f(1, 1), api.OK},
		{-mostInt, mostInt, f(-1, 1), api.OK},
		{mostInt, 1, api.Frac{}, api.ErrMuch},
		{1, mostInt, api.Frac{}, api.ErrMuch},
		{1, 0, api.Frac{}, api.ErrRange},
		{0, 0, api.Frac{}, api.ErrRange},
		{1, -1, api.Frac{}, api.ErrRange},
		{-6, -4, api.Frac{}, api.ErrRange},
		{leastInt, -1, api.Frac{}, api.ErrRange},
		{mostInt, 0, api.Frac{}, api.ErrRange}, // ahead of ErrMuch
		{leastInt, leastInt, api.Frac{}, api.ErrRange},
	} {
		if got, err := frac.Make(c.up, c.down); got != c.want || err != c.err {
			t.Errorf("Make(%d, %d) is %v, %d; not %v, %d", c.up, c.down, got, err, c.want, c.err)
		}
	}
}

func TestF1MakeOfEdges(t *testing.T) {
	for _, up := range edgeParts() {
		for _, down := range edgeParts() {
			want, errWant := api.Frac{}, api.ErrRange
			if down >= 1 {
				want, errWant = told(rat(f(up, down)))
			}
			got, err := frac.Make(up, down)
			if got != want || err != errWant {
				t.Errorf("Make(%d, %d) is %v, %d; not %v, %d", up, down, got, err, want, errWant)
			}
			if err == api.OK && !frac.Right(got) {
				t.Errorf("Make(%d, %d) is %v, which is not right", up, down, got)
			}
		}
	}
}

func TestF2Pairs(t *testing.T) {
	for _, c := range []struct {
		do   string
		a, b api.Frac
		want api.Frac
		err  api.Errno
	}{
		{"Plus", f(2, 3), f(-3, 4), f(-1, 12), api.OK},
		{"Plus", f(1, 6), f(1, 3), f(1, 2), api.OK},
		{"Plus", f(1, 2), f(-1, 2), f(0, 1), api.OK},
		{"Plus", f(most-1, 1), f(1, 1), f(most, 1), api.OK},
		{"Plus", f(most, 1), f(1, 1), api.Frac{}, api.ErrMuch},
		{"Plus", f(-most, 1), f(-1, 1), api.Frac{}, api.ErrMuch},
		{"Plus", f(1, most), f(1, most), f(1, most/2), api.OK},
		{"Plus", f(1, most), f(1, most-1), api.Frac{}, api.ErrMuch},
		{"Minus", f(2, 3), f(-3, 4), f(17, 12), api.OK},
		{"Minus", f(-7, 5), f(-7, 5), f(0, 1), api.OK},
		{"Minus", f(0, 1), f(most, 1), f(-most, 1), api.OK},
		{"Minus", f(-1, 1), f(most, 1), api.Frac{}, api.ErrMuch},
		{"Minus", f(most, 1), f(-most, 1), api.Frac{}, api.ErrMuch},
		{"Times", f(2, 3), f(-3, 4), f(-1, 2), api.OK},
		{"Times", f(-2, 3), f(-3, 4), f(1, 2), api.OK},
		{"Times", f(0, 1), f(-3, 4), f(0, 1), api.OK},
		{"Times", f(most, 1), f(1, most), f(1, 1), api.OK},
		{"Times", f(1<<15, 1), f(-1<<15, 1), f(-most, 1), api.OK},
		{"Times", f(most, 1), f(most, 1), api.Frac{}, api.ErrMuch},
		{"Times", f(1, most), f(1, 2), api.Frac{}, api.ErrMuch},
		{"Over", f(2, 3), f(-3, 4), f(-8, 9), api.OK},
		{"Over", f(-2, 3), f(-3, 4), f(8, 9), api.OK},
		{"Over", f(0, 1), f(-3, 4), f(0, 1), api.OK},
		{"Over", f(1, 1), f(-most, 1), f(-1, most), api.OK},
		{"Over", f(-most, prime), f(-most, prime), f(1, 1), api.OK},
		{"Over", f(most, 1), f(1, most), api.Frac{}, api.ErrMuch},
		{"Over", f(1, most), f(-most, 1), api.Frac{}, api.ErrMuch},
		{"Over", f(1, 2), f(0, 1), api.Frac{}, api.ErrRange},
		{"Over", f(0, 1), f(0, 1), api.Frac{}, api.ErrRange},
		{"Over", f(2, 4), f(0, 1), api.Frac{}, api.ErrForm}, // ahead of ErrRange
		{"Over", f(1, 2), f(0, 2), api.Frac{}, api.ErrForm},
	} {
		if got, err := pairs()[c.do](c.a, c.b); got != c.want || err != c.err {
			t.Errorf("%s(%v, %v) is %v, %d; not %v, %d", c.do, c.a, c.b, got, err, c.want, c.err)
		}
	}
}

func TestF2PairsOfEdges(t *testing.T) {
	exact := map[string]func(z, a, b *big.Rat) *big.Rat{"Plus": (*big.Rat).Add, "Minus": (*big.Rat).Sub, "Times": (*big.Rat).Mul, "Over": (*big.Rat).Quo}
	l := rightFracs()
	for name, do := range pairs() {
		for _, a := range l {
			for _, b := range l {
				want, errWant := api.Frac{}, api.ErrRange
				if name != "Over" || b.Up != 0 {
					want, errWant = told(exact[name](new(big.Rat), rat(a), rat(b)))
				}
				if got, err := do(a, b); got != want || err != errWant {
					t.Fatalf("%s(%v, %v) is %v, %d; not %v, %d", name, a, b, got, err, want, errWant)
				}
			}
		}
	}
}

func TestF2WrongFractions(t *testing.T) {
	for _, x := range wrongFracs() {
		for _, y := range append(wrongFracs(), f(0, 1), f(-3, 2), f(most, 1)) {
			for _, c := range [][2]api.Frac{{x, y}, {y, x}} {
				for name, do := range pairs() {
					if got, err := do(c[0], c[1]); got != (api.Frac{}) || err != api.ErrForm {
						t.Errorf("%s(%v, %v) is %v, %d", name, c[0], c[1], got, err)
					}
				}
				if got, err := frac.Order(c[0], c[1]); got != 0 || err != api.ErrForm {
					t.Errorf("Order(%v, %v) is %d, %d", c[0], c[1], got, err)
				}
			}
		}
		if got, err := frac.Floor(x); got != 0 || err != api.ErrForm {
			t.Errorf("Floor(%v) is %d, %d", x, got, err)
		}
	}
}

func TestF2Order(t *testing.T) {
	for _, c := range []struct {
		a, b api.Frac
		want int
	}{
		{f(1, 3), f(1, 2), -1},
		{f(1, 2), f(1, 3), 1},
		{f(-1, 3), f(-1, 2), 1},
		{f(-7, 5), f(-7, 5), 0},
		{f(0, 1), f(0, 1), 0},
		{f(-1, most), f(0, 1), -1},
		{f(-most, 1), f(most, 1), -1},
		{f(most, 1), f(-most, 1), 1},
		{f(most-1, most), f(most-2, most-1), 1}, // one part in 2^60 apart
		{f(1, most), f(1, most-1), -1},
	} {
		if got, err := frac.Order(c.a, c.b); got != c.want || err != api.OK {
			t.Errorf("Order(%v, %v) is %d, %d; not %d", c.a, c.b, got, err, c.want)
		}
	}
	l := rightFracs()
	for _, a := range l {
		for _, b := range l {
			if got, err := frac.Order(a, b); got != rat(a).Cmp(rat(b)) || err != api.OK {
				t.Fatalf("Order(%v, %v) is %d, %d", a, b, got, err)
			}
		}
	}
}

func TestF2Floor(t *testing.T) {
	for _, c := range []struct {
		a    api.Frac
		want int
	}{
		{f(-3, 2), -2},
		{f(3, 2), 1},
		{f(0, 1), 0},
		{f(2, 1), 2},
		{f(-2, 1), -2},
		{f(1, most), 0},
		{f(-1, most), -1},
		{f(most, 1), most},
		{f(-most, 1), -most},
		{f(most, most-1), 1},
		{f(-most, most-1), -2},
		{f(1-most, most), -1},
	} {
		if got, err := frac.Floor(c.a); got != c.want || err != api.OK {
			t.Errorf("Floor(%v) is %d, %d; not %d", c.a, got, err, c.want)
		}
	}
	for _, a := range rightFracs() {
		// big's Div rounds down where the divisor is above 0.
		want := new(big.Int).Div(big.NewInt(int64(a.Up)), big.NewInt(int64(a.Down))).Int64()
		if got, err := frac.Floor(a); int64(got) != want || err != api.OK {
			t.Errorf("Floor(%v) is %d, %d; not %d", a, got, err, want)
		}
	}
}

func TestSmallFractionsAll(t *testing.T) {
	var l []api.Frac
	for up := -9; up <= 9; up++ {
		for down := 1; down <= 9; down++ {
			x, err := frac.Make(up, down)
			if err != api.OK || !frac.Right(x) || x.Up*down != up*x.Down {
				t.Fatalf("Make(%d, %d) is %v, %d", up, down, x, err)
			}
			l = append(l, x)
		}
	}
	for _, a := range l {
		for _, b := range l {
			sum, _ := frac.Plus(a, b)
			if back, err := frac.Minus(sum, b); back != a || err != api.OK {
				t.Fatalf("%v plus and minus %v is %v, %d", a, b, back, err)
			}
			if b.Up == 0 {
				continue
			}
			product, _ := frac.Times(a, b)
			if back, err := frac.Over(product, b); back != a || err != api.OK {
				t.Fatalf("%v times and over %v is %v, %d", a, b, back, err)
			}
		}
	}
}
