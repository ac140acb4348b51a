package fourier_test

import (
	"math"
	"math/rand"
	"slices"
	"testing"

	"cantus/api"
	"cantus/fourier"
)

// isMultiplied is Q4 of what is right, number by number.
func isMultiplied(a, b []int) []int {
	out := make([]int, len(a)+len(b)-1)
	for i, x := range a {
		for j, y := range b {
			out[i+j] += x * y
		}
	}
	return out
}

func multiplies(t *testing.T, a, b []int) {
	t.Helper()
	got, err := fourier.Product(a, b)
	if err != api.OK || !slices.Equal(got, isMultiplied(a, b)) {
		if len(a)+len(b) > 40 {
			t.Fatalf("%d numbers times %d: %d of them, %d, and they are wrong", len(a), len(b), len(got), err)
		}
		t.Fatalf("%v times %v: %v %d, not %v", a, b, got, err, isMultiplied(a, b))
	}
}

func filled(n int, number func(i int) int) []int {
	out := make([]int, n)
	for i := range out {
		out[i] = number(i)
	}
	return out
}

func TestQ4Examples(t *testing.T) {
	for _, x := range []struct{ a, b, want []int }{
		{[]int{1, 2}, []int{3, 4}, []int{3, 10, 8}},
		{[]int{3}, []int{5}, []int{15}},
		{[]int{0}, []int{0}, []int{0}},
		{[]int{-512}, []int{512}, []int{-262144}},
		{[]int{1, 2, 3}, []int{4, -5}, []int{4, 3, 2, -15}},
		{[]int{0, 0, 1}, []int{0, 7, 0}, []int{0, 0, 0, 7, 0}},
		{[]int{1, -1}, []int{1, 1}, []int{1, 0, -1}},
		{[]int{2}, []int{1, 2, 3, 4, 5}, []int{2, 4, 6, 8, 10}},
	} {
		if got, err := fourier.Product(x.a, x.b); err != api.OK || !slices.Equal(got, x.want) {
			t.Errorf("%v times %v: %v %d, not %v", x.a, x.b, got, err, x.want)
		}
	}
}

// TestQ4Short has all lists of up to three numbers of some.
func TestQ4Short(t *testing.T) {
	numbers := []int{-512, -1, 0, 3, 512}
	var lists [][]int
	for _, x := range numbers {
		lists = append(lists, []int{x})
		for _, y := range numbers {
			lists = append(lists, []int{x, y})
			for _, z := range numbers {
				lists = append(lists, []int{x, y, z})
			}
		}
	}
	for _, a := range lists {
		for _, b := range lists {
			multiplies(t, a, b)
		}
	}
}

// TestQ4Lengths: wherever two lists end, as many numbers as they have together, less one, come out.
func TestQ4Lengths(t *testing.T) {
	r := rand.New(rand.NewSource(4))
	number := func(int) int { return r.Intn(1025) - 512 }
	for n := 1; n <= 40; n++ {
		for m := 1; m <= 40; m++ {
			multiplies(t, filled(n, number), filled(m, number))
		}
	}
	for _, n := range []int{1, 2, 63, 64, 65, 255, 256, 257, 511, 512} {
		for _, m := range []int{1, 2, 63, 64, 65, 255, 256, 257, 511, 512} {
			multiplies(t, filled(n, number), filled(m, number))
		}
	}
}

// TestQ4Great has the longest lists of the greatest numbers, where most is rounded.
func TestQ4Great(t *testing.T) {
	r := rand.New(rand.NewSource(44))
	lists := [][]int{
		filled(512, func(int) int { return 512 }),
		filled(512, func(int) int { return -512 }),
		filled(512, func(i int) int { return 512 - i%2*1024 }),
		filled(512, func(i int) int { return 512 - i/2%2*1024 }),
		filled(512, func(i int) int { return 512 - i/256*1024 }),
		filled(512, func(i int) int { return i%1025 - 512 }),
		filled(512, func(i int) int { return i / 511 }),
		filled(512, func(int) int { return 0 }),
	}
	for n := 1; n < 512; n *= 2 {
		lists = append(lists, filled(512, func(i int) int { return int(math.Round(512 * math.Cos(2*math.Pi*float64(i*n)/1024))) }))
	}
	for range 8 {
		lists = append(lists, filled(512, func(int) int { return 512 - r.Intn(2)*1024 }))
	}
	for _, a := range lists {
		for _, b := range lists {
			multiplies(t, a, b)
		}
	}
}

func TestQ4Wrong(t *testing.T) {
	one, full := []int{1}, filled(512, func(i int) int { return i })
	much, far := make([]int, 513), []int{1, 2, 513}
	for _, x := range []struct {
		name string
		a, b []int
		want api.Errno
	}{
		{"a has none", nil, one, api.ErrMany},
		{"a is empty", []int{}, one, api.ErrMany},
		{"a is empty, with room behind", full[:0], full, api.ErrMany},
		{"a has too many", much, one, api.ErrMany},
		{"a has far too many", make([]int, 5000), full, api.ErrMany},
		{"b has none", one, nil, api.ErrMany},
		{"b is empty", full, []int{}, api.ErrMany},
		{"b has too many", full, much, api.ErrMany},
		{"both have none", nil, nil, api.ErrMany},
		{"a goes too far", far, one, api.ErrRange},
		{"b goes too far", one, far, api.ErrRange},
		{"a has too many, and goes too far", append(far, much...), one, api.ErrMany},
		{"b has too many, and goes too far", one, append(far, much...), api.ErrMany},
		{"a goes too far, b has none", far, nil, api.ErrRange},
		{"a goes too far, b has too many", far, much, api.ErrRange},
		{"a has none, b goes too far", nil, far, api.ErrMany},
		{"a has too many, b goes too far", much, far, api.ErrMany},
	} {
		if got, err := fourier.Product(x.a, x.b); len(got) != 0 || err != x.want {
			t.Errorf("%s: %d numbers, %d, not %d", x.name, len(got), err, x.want)
		}
	}
}

// TestQ4Far has one number that is too far from nought, at each place.
func TestQ4Far(t *testing.T) {
	right := filled(512, func(i int) int { return 512 - i%2*1024 })
	for _, n := range []int{1, 2, 7, 512} {
		for i := range n {
			for _, x := range []int{513, -513, 1 << 16, 1<<32 + 1, -1 << 32, math.MaxInt, math.MinInt} {
				wrong := slices.Clone(right[:n])
				wrong[i] = x
				if got, err := fourier.Product(wrong, right); len(got) != 0 || err != api.ErrRange {
					t.Fatalf("%d at %d of %d in a: %d numbers, %d", x, i, n, len(got), err)
				}
				if got, err := fourier.Product(right, wrong); len(got) != 0 || err != api.ErrRange {
					t.Fatalf("%d at %d of %d in b: %d numbers, %d", x, i, n, len(got), err)
				}
			}
		}
	}
}

// TestQ4Lists: what is handed in is only read, be it one list twice or lists with others behind them; what is answered is new.
func TestQ4Lists(t *testing.T) {
	room := filled(300, func(i int) int { return i*37%1025 - 512 })
	was := slices.Clone(room)
	for _, x := range [][2][]int{
		{room, room}, {room[:10], room[:10]}, {room[:10], room[10:20]}, {room[5:50], room[:20]}, {room[:1], room[:1]},
	} {
		want := isMultiplied(x[0], x[1])
		got, err := fourier.Product(x[0], x[1])
		again, _ := fourier.Product(x[0], x[1])
		if err != api.OK || !slices.Equal(got, want) {
			t.Fatalf("%d numbers times %d: wrong, %d", len(x[0]), len(x[1]), err)
		}
		got = got[:cap(got)]
		for i := range got {
			got[i] = 77
		}
		if !slices.Equal(room, was) {
			t.Fatalf("what is handed in, or stands behind it, has changed")
		}
		if !slices.Equal(again, want) {
			t.Fatalf("two answers lie in one place")
		}
	}
}
