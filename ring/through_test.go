package ring_test

import (
	"math"
	"runtime"
	"slices"
	"sync"
	"testing"
	"time"

	"cantus/api"
	"cantus/ring"
)

// through is Through, but that it is given up if it does not end.
func through(t *testing.T, n int, l []int) ([]int, api.Errno) {
	t.Helper()
	var out []int
	var err api.Errno
	ends(t, func() { out, err = ring.Through(n, l) })
	return out, err
}

func comes(t *testing.T, n int, l []int) {
	t.Helper()
	out, err := through(t, n, l)
	if err != api.OK || !slices.Equal(out, l) {
		if len(l) > 40 {
			t.Fatalf("room for %d: of %d numbers %d come, %d, and they are wrong", n, len(l), len(out), err)
		}
		t.Fatalf("room for %d: of %v comes %v %d", n, l, out, err)
	}
}

func numbers(many int) []int {
	l := make([]int, many)
	for i := range l {
		l[i] = number(i)
	}
	return l
}

func TestA3Examples(t *testing.T) {
	for _, n := range []int{1, 2, 3, 4, 11, 12, 65536} {
		comes(t, n, []int{1, 2, 3})
		comes(t, n, []int{7})
		comes(t, n, []int{0})
		comes(t, n, []int{0, 0, 0, 0, 0})
		comes(t, n, []int{3, 1, 2, 1, 3})
		comes(t, n, edges())
	}
}

// TestA3Lengths has lists that are shorter than the ring, as long, and longer.
func TestA3Lengths(t *testing.T) {
	for n := 1; n <= 20; n++ {
		for many := range 70 {
			comes(t, n, numbers(many))
		}
	}
	for _, n := range []int{255, 256, 257, 1000, 65535, 65536} {
		for _, many := range []int{0, 1, n - 1, n, n + 1, 2*n - 1, 2 * n, 2*n + 1, 3*n + 7} {
			comes(t, n, numbers(many))
		}
	}
}

func TestA3Long(t *testing.T) {
	l := numbers(500000)
	for _, n := range []int{1, 2, 3, 100, 65536} {
		comes(t, n, l)
	}
}

func TestA3None(t *testing.T) {
	for _, n := range []int{1, 2, 65536} {
		for _, l := range [][]int{nil, {}, make([]int, 3)[:0]} {
			if out, err := through(t, n, l); len(out) != 0 || err != api.OK {
				t.Errorf("room for %d, and no numbers: %v %d", n, out, err)
			}
		}
	}
}

func TestA3Wrong(t *testing.T) {
	for _, n := range []int{math.MinInt, -1 << 32, -65536, -1, 0, 65537, 1 << 31, 1 << 32, 1<<32 + 1, math.MaxInt} {
		for _, l := range [][]int{nil, {}, {1}, {1, 2, 3}, numbers(1000)} {
			if out, err := through(t, n, l); len(out) != 0 || err != api.ErrRange {
				t.Errorf("room for %d, %d numbers: %d of them, %d", n, len(l), len(out), err)
			}
		}
	}
}

// TestA3Lists: what is handed in is only read, with what stands behind it, and not kept; what is answered is new.
func TestA3Lists(t *testing.T) {
	for _, n := range []int{1, 4, 100} {
		room := numbers(90)
		was := slices.Clone(room)
		out, err := through(t, n, room[10:60])
		again, _ := through(t, n, room[10:60])
		if err != api.OK || !slices.Equal(room, was) {
			t.Fatalf("room for %d: what is handed in, or stands beside it, has changed: %d", n, err)
		}
		for i := range room {
			room[i] = 99
		}
		if !slices.Equal(out, was[10:60]) {
			t.Fatalf("room for %d: an answer changes with what was handed in", n)
		}
		out = out[:cap(out)]
		for i := range out {
			out[i] = 77
		}
		if !slices.Equal(again, was[10:60]) || slices.Contains(room, 77) {
			t.Fatalf("room for %d: an answer lies where something else does", n)
		}
	}
}

// TestA3Joined: when Through has answered, nobody is left behind.
func TestA3Joined(t *testing.T) {
	l := numbers(20)
	before := runtime.NumGoroutine()
	for range 2000 {
		for _, n := range []int{0, 1, 3, 30} {
			through(t, n, l)
		}
	}
	// A goroutine that has told that it is done may still be on its way out.
	for range 200 {
		if runtime.NumGoroutine() <= before {
			return
		}
		time.Sleep(5 * time.Millisecond)
	}
	t.Errorf("%d goroutines, and there were %d", runtime.NumGoroutine(), before)
}

// TestA3Several has several calls at the same time, which read one list.
func TestA3Several(t *testing.T) {
	l := numbers(5000)
	var all sync.WaitGroup
	for i := range 24 {
		all.Go(func() {
			if out, err := ring.Through(1+i%5, l); err != api.OK || !slices.Equal(out, l) {
				t.Errorf("one of several, room for %d: %d numbers of %d, %d, and they are wrong", 1+i%5, len(out), len(l), err)
			}
		})
	}
	ends(t, all.Wait)
}

// TestA3Alone: two goroutines that take turns on one processor come through too.
func TestA3Alone(t *testing.T) {
	defer runtime.GOMAXPROCS(runtime.GOMAXPROCS(1))
	for _, n := range []int{1, 2, 7, 1000} {
		comes(t, n, numbers(20000))
	}
}
