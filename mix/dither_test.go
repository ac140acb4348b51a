package mix_test

import (
	"math"
	"math/big"
	"math/rand"
	"slices"
	"testing"

	"cantus/api"
	"cantus/mix"
)

// model is Y3, word by word, with whole numbers that have no bounds.
type model struct {
	seed, rest    *big.Int
	loud, clipped int
}

func newModel(seed uint32) *model {
	return &model{seed: big.NewInt(int64(seed)), rest: new(big.Int)}
}

// over is a over 2^n, rounded down (Div rounds down where what it divides by is above 0).
func over(a *big.Int, n uint) *big.Int {
	return new(big.Int).Div(a, new(big.Int).Lsh(big.NewInt(1), n))
}

func (m *model) next(sum int) int {
	m.seed.Mul(m.seed, big.NewInt(1664525))
	m.seed.Add(m.seed, big.NewInt(1013904223))
	m.seed.Mod(m.seed, big.NewInt(4294967296))
	noise := over(m.seed, 16)
	s := new(big.Int).Add(big.NewInt(int64(sum)), m.rest)
	n := over(new(big.Int).Add(s, noise), 16)
	m.rest.Sub(s, new(big.Int).Mul(n, big.NewInt(65536)))
	told := n.Int64()
	if told > 32767 || told < -32768 {
		told = min(max(told, -32768), 32767)
		m.rest.SetInt64(0)
		m.clipped++
	}
	m.loud = max(m.loud, int(told), int(-told))
	return int(told)
}

func (m *model) run(sums []int) []int {
	var out []int
	for _, sum := range sums {
		out = append(out, m.next(sum))
	}
	return out
}

// follows lets a dither and its model run, and holds them against each other.
func follows(t *testing.T, d *mix.Dither, m *model, sums []int) {
	t.Helper()
	got, err := d.Run(sums)
	want := m.run(sums)
	if err != api.OK || !slices.Equal(got, want) {
		if len(sums) > 40 {
			t.Fatalf("%d sums: %d samples, %d, and they are wrong", len(sums), len(got), err)
		}
		t.Fatalf("%v: %v %d, not %v", sums, got, err, want)
	}
	if d.Loud != m.loud || d.Clipped != m.clipped {
		t.Fatalf("loud %d, clipped %d; not %d, %d", d.Loud, d.Clipped, m.loud, m.clipped)
	}
}

// tells holds a run against what was worked out by hand.
func tells(t *testing.T, d *mix.Dither, sums, want []int, loud, clipped int) {
	t.Helper()
	got, err := d.Run(sums)
	if err != api.OK || !slices.Equal(got, want) {
		t.Fatalf("%v: %v %d, not %v", sums, got, err, want)
	}
	if d.Loud != loud || d.Clipped != clipped {
		t.Fatalf("%v: loud %d, clipped %d; not %d, %d", sums, d.Loud, d.Clipped, loud, clipped)
	}
}

// seedWith is one whose first noise is that one: the step from seed to seed is turned round.
func seedWith(noise uint32) uint32 {
	back := uint32(1)
	for range 5 { // each time twice as many bits are right
		back *= 2 - 1664525*back
	}
	return (noise<<16 - 1013904223) * back
}

func TestY3Examples(t *testing.T) {
	d := mix.NewDither(7)
	if d.Loud != 0 || d.Clipped != 0 {
		t.Fatalf("at first: loud %d, clipped %d", d.Loud, d.Clipped)
	}
	tells(t, d, nil, nil, 0, 0)
	tells(t, d, []int{0, 65536, 32768, 32768, -32768, -1}, []int{0, 1, 1, 0, -1, 1}, 1, 0)
	tells(t, d, []int{1 << 40, -(1 << 40), 5}, []int{32767, -32768, 0}, 32768, 2)
	tells(t, d, []int{}, nil, 32768, 2)
}

// TestY3Noise: of a sum that is a part of 2^16 it hangs on the noise whether it is told as one more.
func TestY3Noise(t *testing.T) {
	for _, noise := range []uint32{0, 1, 2, 255, 256, 32767, 32768, 65534, 65535} {
		seed, n := seedWith(noise), int(noise)
		tells(t, mix.NewDither(seed), []int{65535 - n}, []int{0}, 0, 0)
		tells(t, mix.NewDither(seed), []int{65536 - n}, []int{1}, 1, 0)
		tells(t, mix.NewDither(seed), []int{-n}, []int{0}, 0, 0)
		tells(t, mix.NewDither(seed), []int{-n - 1}, []int{-1}, 1, 0)
		tells(t, mix.NewDither(seed), []int{-n - 65536}, []int{-1}, 1, 0)
		tells(t, mix.NewDither(seed), []int{-n - 65537}, []int{-2}, 2, 0)
		for _, sum := range []int{65535 - n, 65536 - n, -n, -n - 1} {
			follows(t, mix.NewDither(seed), newModel(seed), []int{sum, 0, 0, 1, -1, 40000, 0, 0, 0, -40000, 0, 0, 0})
		}
	}
}

// TestY3Clip: the last sums that are not too great, and the first ones that are; the rest is forgotten with them alone.
func TestY3Clip(t *testing.T) {
	for _, noise := range []uint32{0, 1, 40000, 65535} {
		seed, n := seedWith(noise), int(noise)
		for _, x := range []struct{ sum, told, loud, clipped int }{
			{32768<<16 - 1 - n, 32767, 32767, 0},
			{32768<<16 - n, 32767, 32767, 1},
			{-32768<<16 - n, -32768, 32768, 0},
			{-32768<<16 - n - 1, -32768, 32768, 1},
			{1 << 52, 32767, 32767, 1},
			{-1 << 52, -32768, 32768, 1},
		} {
			tells(t, mix.NewDither(seed), []int{x.sum}, []int{x.told}, x.loud, x.clipped)
			follows(t, mix.NewDither(seed), newModel(seed), []int{x.sum, 30000, 0, 0, 0, 0, x.sum, x.sum, 0, 0, 0})
			follows(t, mix.NewDither(seed), newModel(seed), []int{12345, x.sum, -x.sum, 0, -54321, 0, 0})
		}
	}
}

// TestY3Rest: what is rounded off is not lost: behind any sums that are not too great, less than 2^16 is owed, either way.
func TestY3Rest(t *testing.T) {
	r := rand.New(rand.NewSource(5))
	d := mix.NewDither(r.Uint32())
	owed := 0
	for range 2000 {
		sums := drawn(r, 10, 30000<<16)
		got, err := d.Run(sums)
		if err != api.OK || len(got) != len(sums) {
			t.Fatalf("%v: %v %d", sums, got, err)
		}
		for i, n := range got {
			owed += sums[i] - n<<16
		}
		if owed <= -65536 || owed >= 65536 {
			t.Fatalf("%d is owed", owed)
		}
	}
	if d.Clipped != 0 {
		t.Errorf("%d were too great", d.Clipped)
	}
}

// TestY3Loud stays as loud as it was, however soft the next ones are.
func TestY3Loud(t *testing.T) {
	seed := seedWith(0)
	d := mix.NewDither(seed)
	follows(t, d, newModel(seed), []int{-500 << 16, 3 << 16, 0})
	if d.Loud != 500 {
		t.Errorf("loud %d", d.Loud)
	}
	tells(t, d, []int{0}, []int{0}, 500, 0)
	tells(t, d, []int{499 << 16}, []int{499}, 500, 0)
	tells(t, d, []int{501 << 16}, []int{501}, 501, 0)
}

func TestY3Drawn(t *testing.T) {
	r := rand.New(rand.NewSource(6))
	seeds := []uint32{0, 1, 7, 1 << 31, math.MaxUint32, 1013904223, 65535, 65536}
	for range 40 {
		seeds = append(seeds, r.Uint32())
	}
	for _, seed := range seeds {
		d, m := mix.NewDither(seed), newModel(seed)
		for _, most := range []int{0, 1, 1 << 15, 1 << 17, 1 << 24, 1 << 31, 1 << 32, 1 << 52} {
			follows(t, d, m, drawn(r, 30, most))
			follows(t, d, m, drawn(r, 30, most))
		}
	}
	follows(t, mix.NewDither(9), newModel(9), make([]int, 100000))
}

// TestY3Blocks: however sums are cut, the same samples come of them.
func TestY3Blocks(t *testing.T) {
	r := rand.New(rand.NewSource(7))
	sums := make([]int, 300)
	for i := range sums {
		sums[i] = r.Intn(1<<33) - 1<<32
	}
	whole := mix.NewDither(11)
	want, _ := whole.Run(sums)
	for _, block := range []int{1, 2, 3, 7, 64, 299, 300, 301} {
		d := mix.NewDither(11)
		var got []int
		for at := 0; at < len(sums); at += block {
			l, err := d.Run(sums[at:min(at+block, len(sums))])
			if err != api.OK {
				t.Fatalf("block %d: %d", block, err)
			}
			got = append(got, l...)
		}
		if !slices.Equal(got, want) || d.Loud != whole.Loud || d.Clipped != whole.Clipped {
			t.Errorf("blocks of %d: they are others, or loud %d, clipped %d", block, d.Loud, d.Clipped)
		}
	}
}

// TestY3Wrong: where one sum is too great, nothing is done: neither the seed goes on, nor the rest.
func TestY3Wrong(t *testing.T) {
	d, m := mix.NewDither(3), newModel(3)
	follows(t, d, m, []int{1 << 52, -1 << 52, 40000, -1234567})
	for _, x := range []int{1<<52 + 1, -1<<52 - 1, 1 << 53, -1 << 53, 1 << 60, math.MaxInt, math.MinInt, math.MinInt + 1} {
		for _, sums := range [][]int{{x}, {x, 1, 2}, {30000, -1 << 45, x}, {1, x, 70000 << 16}} {
			before := *d
			if got, err := d.Run(sums); err != api.ErrRange || len(got) != 0 {
				t.Errorf("%v: %v %d", sums, got, err)
			}
			if *d != before {
				t.Errorf("%v: it is %+v, and was %+v", sums, *d, before)
			}
		}
		follows(t, d, m, []int{30000, 30000, -1 << 31, 77})
	}
}

// TestY3Apart: two dithers do not know of one another.
func TestY3Apart(t *testing.T) {
	a, b, m, n := mix.NewDither(5), mix.NewDither(5), newModel(5), newModel(5)
	for i := range 20 {
		follows(t, a, m, []int{i * 30000, -i * 1000, 1 << 40})
		follows(t, b, n, []int{-i})
	}
	if b.Clipped != 0 || a.Clipped != 20 {
		t.Errorf("clipped %d and %d", a.Clipped, b.Clipped)
	}
}

// TestY3Memory: nothing of what is handed in is changed or kept, its spare room neither.
func TestY3Memory(t *testing.T) {
	room := []int{65536, -65536 * 3, 500000, 7, 8}
	sums := room[:3]
	d, m := mix.NewDither(1), newModel(1)
	got, err := d.Run(sums)
	want := m.run(sums)
	if err != api.OK || !slices.Equal(got, want) || !slices.Equal(room, []int{65536, -65536 * 3, 500000, 7, 8}) {
		t.Fatalf("%v %d, of %v", got, err, room)
	}
	clear(room)
	follows(t, d, m, []int{1, 2, 3, 4})
	if !slices.Equal(got, want) {
		t.Errorf("what was answered is changed: %v", got)
	}
	clear(got[:cap(got)])
	follows(t, d, m, []int{50000, 50000})
}
