package mix_test

import (
	"math"
	"math/big"
	"math/rand"
	"slices"
	"testing"

	"cantus/api"
	"cantus/mix"
)

// isSummed is Y1 of what is right, place by place, with whole numbers that have no bounds.
func isSummed(tracks [][]int, gains []int) []int {
	var out []int
	for k := 0; ; k++ {
		sum, sounds := new(big.Int), false
		for i, track := range tracks {
			if k < len(track) {
				sounds = true
				sum.Add(sum, new(big.Int).Mul(big.NewInt(int64(track[k])), big.NewInt(int64(gains[i]))))
			}
		}
		if !sounds {
			return out
		}
		out = append(out, int(sum.Int64()))
	}
}

func sums(t *testing.T, name string, tracks [][]int, gains, want []int) {
	t.Helper()
	if got, err := mix.Sum(tracks, gains); err != api.OK || !slices.Equal(got, want) {
		if len(got)+len(want) > 40 {
			t.Fatalf("%s: %d sums, %d, and they are wrong", name, len(got), err)
		}
		t.Fatalf("%s: %v %d, not %v", name, got, err, want)
	}
}

func refuses(t *testing.T, name string, tracks [][]int, gains []int, want api.Errno) {
	t.Helper()
	if got, err := mix.Sum(tracks, gains); err != want || len(got) != 0 {
		t.Errorf("%s: %v %d, not %d", name, got, err, want)
	}
}

// drawn is up to long numbers, each from -most to most.
func drawn(r *rand.Rand, long, most int) []int {
	out := make([]int, r.Intn(long+1))
	for i := range out {
		out[i] = r.Intn(2*most+1) - most
	}
	return out
}

func drawnTracks(r *rand.Rand, n int) (tracks [][]int, gains []int) {
	for range n {
		tracks = append(tracks, drawn(r, 20, 1<<24))
		gains = append(gains, r.Intn(2<<20+1)-1<<20)
	}
	return tracks, gains
}

func TestY1Examples(t *testing.T) {
	for _, x := range []struct {
		name   string
		tracks [][]int
		gains  []int
		want   []int
	}{
		{"no tracks", nil, nil, nil},
		{"no tracks, but lists", [][]int{}, []int{}, nil},
		{"tracks without samples", [][]int{nil, {}}, []int{1, 2}, nil},
		{"one, as it is", [][]int{{1, -2, 3}}, []int{1}, []int{1, -2, 3}},
		{"one that is turned round", [][]int{{1, -2, 3}}, []int{-3}, []int{-3, 6, -9}},
		{"one that is not heard", [][]int{{1, -2, 3}}, []int{0}, []int{0, 0, 0}},
		{"the second is shorter", [][]int{{1, 2, 3}, {-4, 5}}, []int{65536, 3}, []int{65524, 131087, 196608}},
		{"the first is shorter", [][]int{{-4, 5}, {1, 2, 3}}, []int{3, 65536}, []int{65524, 131087, 196608}},
		{"the longest stands between, and is not heard", [][]int{{7}, {1, 2, 3, 4}, {5, 6}}, []int{1, 0, 10}, []int{57, 60, 0, 0}},
		{"they are nothing together", [][]int{{9, 1}, {9, 1}}, []int{5, -5}, []int{0, 0}},
	} {
		sums(t, x.name, x.tracks, x.gains, x.want)
	}
}

func TestY1Edges(t *testing.T) {
	loud, sample := 1<<20, 1<<24
	sums(t, "one at its bounds", [][]int{{sample, -sample}, {-sample, sample}}, []int{loud, -loud}, []int{1 << 45, -1 << 45})
	for _, gain := range []int{loud, -loud} {
		tracks, gains := make([][]int, 256), make([]int, 256)
		for i := range tracks {
			tracks[i], gains[i] = []int{sample, -sample, sample - 1}, gain
		}
		sign := gain / loud
		sums(t, "all at their bounds", tracks, gains, []int{sign << 52, -sign << 52, sign * (1<<52 - 1<<28)})
	}
}

func TestY1Drawn(t *testing.T) {
	r := rand.New(rand.NewSource(1))
	for n := range 257 {
		tracks, gains := drawnTracks(r, n)
		sums(t, "drawn", tracks, gains, isSummed(tracks, gains))
	}
	long := [][]int{make([]int, 100000), make([]int, 99999)}
	for i := range long[1] {
		long[0][i], long[1][i] = i, -i*i%1000
	}
	sums(t, "long", long, []int{7, -9}, isSummed(long, []int{7, -9}))
}

// TestY1Order: in whatever order tracks stand, they are the same together.
func TestY1Order(t *testing.T) {
	r := rand.New(rand.NewSource(2))
	tracks, gains := drawnTracks(r, 256)
	want, _ := mix.Sum(tracks, gains)
	for range 50 {
		r.Shuffle(len(tracks), func(i, j int) {
			tracks[i], tracks[j] = tracks[j], tracks[i]
			gains[i], gains[j] = gains[j], gains[i]
		})
		sums(t, "shuffled", tracks, gains, want)
	}
}

func TestY1Wrong(t *testing.T) {
	for _, n := range []int{257, 258, 100000} {
		refuses(t, "too many", make([][]int, n), make([]int, n), api.ErrMany)
		refuses(t, "too many, without gains", make([][]int, n), nil, api.ErrMany)
		refuses(t, "too many, wrong", append(make([][]int, n), []int{1 << 30}), make([]int, n), api.ErrMany)
	}
	refuses(t, "too many gains as well", nil, make([]int, 257), api.ErrFit)
	refuses(t, "no gain", [][]int{{1}}, nil, api.ErrFit)
	refuses(t, "no track", nil, []int{1}, api.ErrFit)
	refuses(t, "a gain is missing", [][]int{{1}, {2}, {3}}, []int{1, 2}, api.ErrFit)
	refuses(t, "a gain is left", [][]int{{1}, {2}}, []int{1, 2, 3}, api.ErrFit)
	refuses(t, "a gain is missing, another one wrong", [][]int{{1}, {2}}, []int{1 << 40}, api.ErrFit)
	refuses(t, "a gain is missing, a sample wrong", [][]int{{1 << 40}, {2}}, []int{1}, api.ErrFit)
	refuses(t, "a gain is missing of 256", make([][]int, 256), make([]int, 255), api.ErrFit)
	for _, x := range []int{1<<24 + 1, -1<<24 - 1, 1 << 32, -1 << 32, math.MaxInt, math.MinInt, math.MinInt + 1} {
		refuses(t, "the only sample", [][]int{{x}}, []int{1}, api.ErrRange)
		refuses(t, "a sample that is not heard", [][]int{{1}, {x}}, []int{1, 0}, api.ErrRange)
		refuses(t, "the last sample", [][]int{{1, 2}, {3}, {4, 5, x}}, []int{1, 1, 1}, api.ErrRange)
		refuses(t, "the first sample", [][]int{{x, 2}, {3}, {4, 5}}, []int{1, 1, 1}, api.ErrRange)
	}
	for _, x := range []int{1<<20 + 1, -1<<20 - 1, 1 << 32, -1 << 32, math.MaxInt, math.MinInt, math.MinInt + 1} {
		refuses(t, "the only gain", [][]int{{1}}, []int{x}, api.ErrRange)
		refuses(t, "the gain of nothing", [][]int{nil}, []int{x}, api.ErrRange)
		refuses(t, "the gain of silence", [][]int{{1}, {0, 0}}, []int{1, x}, api.ErrRange)
		refuses(t, "the first gain", [][]int{{1}, {2}}, []int{x, 1}, api.ErrRange)
	}
}

// TestY1Memory: nothing of what is handed in is changed or kept, its spare room neither.
func TestY1Memory(t *testing.T) {
	room := []int{1, 2, 3, 4, 5, 6}
	tracks, gains := [][]int{room[:2], room[:3], room[3:5]}, append(make([]int, 0, 8), 2, 3, 4)
	got, err := mix.Sum(tracks, gains)
	want := []int{21, 30, 9}
	if err != api.OK || !slices.Equal(got, want) {
		t.Fatalf("%v %d", got, err)
	}
	if !slices.Equal(room, []int{1, 2, 3, 4, 5, 6}) || !slices.Equal(gains[:8], []int{2, 3, 4, 0, 0, 0, 0, 0}) || len(tracks[0]) != 2 {
		t.Errorf("what was handed in is changed: %v %v", room, gains[:8])
	}
	clear(room)
	clear(gains)
	if !slices.Equal(got, want) {
		t.Errorf("what was answered is changed: %v", got)
	}
	one := []int{5, 6}
	same, _ := mix.Sum([][]int{one}, []int{1})
	clear(same[:cap(same)])
	if !slices.Equal(one, []int{5, 6}) {
		t.Errorf("a track is answered itself: %v", one)
	}
	again, _ := mix.Sum([][]int{one}, []int{1})
	if !slices.Equal(again, one) {
		t.Errorf("the second time: %v", again)
	}
}

// isRounded is Y2 of a number, with halves told by whole numbers that have no bounds.
func isRounded(x float64) int {
	exact := new(big.Rat).SetFloat64(x)
	twice := exact.Mul(exact, new(big.Rat).SetInt64(2*32768))
	// The whole number nearest to a half of it: rounded down with a half more, and one less where a half was just so much, and it came out odd.
	up := new(big.Int).Add(twice.Num(), twice.Denom())
	down := new(big.Int).Mul(twice.Denom(), big.NewInt(2))
	n, left := new(big.Int).DivMod(up, down, new(big.Int))
	if left.Sign() == 0 && n.Bit(0) == 1 {
		n.Sub(n, big.NewInt(1))
	}
	if n.Cmp(big.NewInt(32767)) > 0 {
		return 32767
	}
	if n.Cmp(big.NewInt(-32768)) < 0 {
		return -32768
	}
	return int(n.Int64())
}

func rounds(t *testing.T, x float64, want int) {
	t.Helper()
	if got := mix.Round(x); got != want {
		t.Fatalf("%x (%v): %d, not %d", x, x, got, want)
	}
}

func TestY2Examples(t *testing.T) {
	for _, x := range []struct {
		in   float64
		want int
	}{
		{0, 0}, {math.Copysign(0, -1), 0}, {0.5, 16384}, {-0.5, -16384}, {0.25, 8192},
		{1.0 / 32768, 1}, {-1.0 / 32768, -1}, {12345.0 / 32768, 12345}, {-12345.0 / 32768, -12345},
		{1.0 / 65536, 0}, {3.0 / 65536, 2}, {5.0 / 65536, 2}, {7.0 / 65536, 4}, {-1.0 / 65536, 0}, {-3.0 / 65536, -2}, {-5.0 / 65536, -2},
		{math.Nextafter(1.0/65536, 1), 1}, {math.Nextafter(1.0/65536, 0), 0}, {math.Nextafter(3.0/65536, 0), 1}, {math.Nextafter(-1.0/65536, -1), -1},
		{32767.0 / 32768, 32767}, {32767.25 / 32768, 32767}, {32767.5 / 32768, 32767}, {math.Nextafter(1, 0), 32767}, {32766.5 / 32768, 32766}, {32766.75 / 32768, 32767},
		{1, 32767}, {-1, -32768}, {-32767.5 / 32768, -32768}, {-32766.5 / 32768, -32766}, {-32768.5 / 32768, -32768}, {-32769.0 / 32768, -32768}, {-32770.0 / 32768, -32768},
		{2, 32767}, {-2, -32768}, {65536, 32767}, {-65536, -32768}, {0x1p48, 32767}, {-0x1p48, -32768}, {0x1p49, 32767}, {0x1p113, 32767},
		{1e300, 32767}, {-1e300, -32768}, {math.MaxFloat64, 32767}, {-math.MaxFloat64, -32768}, {math.Inf(1), 32767}, {math.Inf(-1), -32768},
		{math.SmallestNonzeroFloat64, 0}, {-math.SmallestNonzeroFloat64, 0}, {0x1p-1022, 0},
	} {
		rounds(t, x.in, x.want)
	}
}

func TestY2NoNumber(t *testing.T) {
	for _, bits := range []uint64{0x7ff8000000000000, 0x7ff8000000000001, 0xfff8000000000000, 0x7ff0000000000001, 0xffffffffffffffff, 0x7fffffffffffffff} {
		rounds(t, math.Float64frombits(bits), 0)
	}
}

// TestY2Halves has each whole number and each half that can be told, with the floats beside them.
func TestY2Halves(t *testing.T) {
	for twice := -65600; twice <= 65600; twice++ {
		x := float64(twice) / 65536
		for _, near := range []float64{x, math.Nextafter(x, 9), math.Nextafter(x, -9)} {
			rounds(t, near, isRounded(near))
		}
	}
}

func TestY2Drawn(t *testing.T) {
	r := rand.New(rand.NewSource(3))
	for range 20000 {
		x := 2.2 * (r.Float64() - 0.5)
		rounds(t, x, isRounded(x))
		x = math.Float64frombits(r.Uint64())
		if !math.IsNaN(x) && !math.IsInf(x, 0) {
			rounds(t, x, isRounded(x))
		}
	}
}
