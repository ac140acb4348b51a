package ring_test

import (
	"math"
	"math/rand"
	"runtime"
	"sync"
	"sync/atomic"
	"testing"
	"time"

	"cantus/api"
	"cantus/ring"
)

func ringFor(t *testing.T, n int) *ring.Ring {
	t.Helper()
	r, err := ring.New(n)
	if r == nil || err != api.OK {
		t.Fatalf("a ring for %d: %v %d", n, r, err)
	}
	return r
}

func pushes(t *testing.T, r *ring.Ring, x int, want bool) {
	t.Helper()
	if got := r.Push(x); got != want {
		t.Fatalf("%d is put in: %v, not %v", x, got, want)
	}
}

func pops(t *testing.T, r *ring.Ring, want int, wantOk bool) {
	t.Helper()
	if x, ok := r.Pop(); x != want || ok != wantOk {
		t.Fatalf("taken out: %d %v, not %d %v", x, ok, want, wantOk)
	}
}

func holds(t *testing.T, r *ring.Ring, want int) {
	t.Helper()
	if got := r.Len(); got != want {
		t.Fatalf("%d are in, not %d", got, want)
	}
}

// ends gives up on what does not end.
func ends(t *testing.T, do func()) {
	t.Helper()
	ended := make(chan bool)
	go func() {
		defer close(ended)
		do()
	}()
	select {
	case <-ended:
	case <-time.After(time.Minute):
		t.Fatal("no end")
	}
}

// edges are numbers at the ends of what an int can be, and noughts, which are numbers like others.
func edges() []int {
	return []int{0, -1, 1, math.MinInt, math.MaxInt, 0, 1 << 32, -1 << 31, 1<<31 - 1, 0, math.MinInt}
}

func TestA1Sizes(t *testing.T) {
	for _, n := range []int{math.MinInt, math.MinInt + 1, -1 << 32, -65536, -1, 0, 65537, 65538, 1 << 17, 1 << 31, 1 << 32, 1<<32 + 1, 1 << 62, math.MaxInt} {
		if r, err := ring.New(n); r != nil || err != api.ErrRange {
			t.Errorf("no ring for %d: %v %d", n, r, err)
		}
	}
	for _, n := range []int{1, 2, 3, 4, 5, 7, 8, 9, 255, 256, 257, 1000, 65535, 65536} {
		r := ringFor(t, n)
		holds(t, r, 0)
		pops(t, r, 0, false)
		for i := range n {
			pushes(t, r, i+1, true)
			holds(t, r, i+1)
		}
		pushes(t, r, -1, false)
		holds(t, r, n)
		for i := range n {
			pops(t, r, i+1, true)
			holds(t, r, n-i-1)
		}
		pops(t, r, 0, false)
		holds(t, r, 0)
	}
}

func TestA1Steps(t *testing.T) {
	r := ringFor(t, 2)
	pushes(t, r, 1, true)
	pushes(t, r, 2, true)
	pushes(t, r, 3, false)
	pops(t, r, 1, true)
	pushes(t, r, 4, true)
	pushes(t, r, 5, false)
	holds(t, r, 2)
	pops(t, r, 2, true)
	pops(t, r, 4, true) // 3 and 5 were not put in
	pops(t, r, 0, false)
	pops(t, r, 0, false)
	holds(t, r, 0)
	pushes(t, r, 6, true)
	pops(t, r, 6, true)
}

// TestA1Numbers: whatever an int can be comes out as it was put in.
func TestA1Numbers(t *testing.T) {
	for n := 1; n <= 12; n++ {
		r := ringFor(t, n)
		for _, x := range edges() {
			pushes(t, r, x, true)
			pops(t, r, x, true)
		}
		in := edges()[:min(n, len(edges()))]
		for _, x := range in {
			pushes(t, r, x, true)
		}
		for _, x := range in {
			pops(t, r, x, true)
		}
		pops(t, r, 0, false)
	}
}

// TestA1Script has all orders of twelve steps on small rings.
func TestA1Script(t *testing.T) {
	for n := 1; n <= 5; n++ {
		for script := range 1 << 12 {
			r := ringFor(t, n)
			var in []int
			for step := range 12 {
				if script>>step&1 == 1 {
					fits := len(in) < n
					pushes(t, r, 100+step, fits)
					if fits {
						in = append(in, 100+step)
					}
				} else if len(in) == 0 {
					pops(t, r, 0, false)
				} else {
					pops(t, r, in[0], true)
					in = in[1:]
				}
				holds(t, r, len(in))
			}
		}
	}
}

// TestA1Drawn goes round rings of many sizes many times, now filling them and now emptying them.
func TestA1Drawn(t *testing.T) {
	draw := rand.New(rand.NewSource(1))
	for _, n := range []int{1, 2, 3, 6, 7, 8, 15, 16, 17, 100, 1023, 1024, 1025, 65535, 65536} {
		r := ringFor(t, n)
		put, took := 0, 0 // the numbers are told by how many were put in ahead
		number := func(i int) int { return i*i - 7*i - 3 }
		for range 12 {
			fill := draw.Intn(2) * 60
			for range draw.Intn(2*n + 10) {
				if draw.Intn(100) < 20+fill {
					fits := put-took < n
					pushes(t, r, number(put), fits)
					if fits {
						put++
					}
				} else if took == put {
					pops(t, r, 0, false)
				} else {
					pops(t, r, number(took), true)
					took++
				}
				holds(t, r, put-took)
			}
		}
	}
}

// TestE1Rings: rings do not know of one another.
func TestE1Rings(t *testing.T) {
	a, b, c := ringFor(t, 2), ringFor(t, 2), ringFor(t, 3)
	pushes(t, a, 1, true)
	pushes(t, b, 2, true)
	pushes(t, b, 3, true)
	holds(t, a, 1)
	holds(t, b, 2)
	holds(t, c, 0)
	pops(t, c, 0, false)
	pushes(t, c, 4, true)
	pops(t, a, 1, true)
	pops(t, a, 0, false)
	pops(t, b, 2, true)
	pops(t, b, 3, true)
	pops(t, c, 4, true)
}

// TestA2Order has one goroutine put numbers in while another one takes them out, both as fast as they can.
func TestA2Order(t *testing.T) {
	const many = 300000
	for _, n := range []int{1, 2, 3, 8, 100, 65536} {
		r, wrong := ringFor(t, n), 0
		var both sync.WaitGroup
		both.Go(func() {
			for i := 0; i < many; {
				if r.Push(number(i)) {
					i++
				} else {
					runtime.Gosched()
				}
			}
		})
		both.Go(func() {
			for i := 0; i < many; {
				x, ok := r.Pop()
				if ok && x != number(i) || !ok && x != 0 {
					wrong++
				}
				if ok {
					i++
				} else {
					runtime.Gosched()
				}
			}
		})
		ends(t, both.Wait)
		if wrong > 0 {
			t.Errorf("room for %d: %d numbers of %d are wrong", n, wrong, many)
		}
		holds(t, r, 0)
		pops(t, r, 0, false)
	}
}

func number(i int) int { return (i + 1) * 0x9e3779b97f4a7c1 }

// TestA2OneSide: what one goroutine is told holds until it changes it, whatever the other one does: the other one can only make room, or only put more in.
func TestA2OneSide(t *testing.T) {
	const many = 100000
	for _, n := range []int{1, 2, 5, 64} {
		r := ringFor(t, n)
		var full, empty int
		var both sync.WaitGroup
		both.Go(func() {
			for i := 0; i < many; {
				fits := r.Len() < n
				if r.Push(i) {
					i++
					continue
				}
				if fits {
					full++
				}
				runtime.Gosched()
			}
		})
		both.Go(func() {
			for i := 0; i < many; {
				some := r.Len() > 0
				if _, ok := r.Pop(); ok {
					i++
					continue
				}
				if some {
					empty++
				}
				runtime.Gosched()
			}
		})
		ends(t, both.Wait)
		if full > 0 || empty > 0 {
			t.Errorf("room for %d: %d times there was room, and then none; %d times one was in, and then none", n, full, empty)
		}
	}
}

// told are how many calls of Push and Pop were begun and have put in, or taken out, a number. Held against a Len, these are bounds: all that was done ahead of it counts, and nothing that was begun behind it.
type told struct{ begun, done [2]atomic.Int64 }

func (o *told) count(side int, call func() bool) bool {
	o.begun[side].Add(1)
	ok := call()
	if ok {
		o.done[side].Add(1)
	} else {
		o.begun[side].Add(-1)
		runtime.Gosched()
	}
	return ok
}

// within tells whether a Len is what it was at some time of the call.
func (o *told) within(r *ring.Ring, n int) bool {
	least, most := o.done[0].Load(), -o.done[1].Load()
	got := int64(r.Len())
	least -= o.begun[1].Load()
	most += o.begun[0].Load()
	return got >= max(0, least) && got <= min(int64(n), most)
}

func TestA2Len(t *testing.T) {
	const many = 100000
	for _, n := range []int{1, 2, 5, 64, 65536} {
		r := ringFor(t, n)
		var o told
		var both sync.WaitGroup
		var wrong atomic.Int64
		side := func(side int, call func(i int) bool) {
			for i := 0; i < many; {
				if o.count(side, func() bool { return call(i) }) {
					i++
				}
				if !o.within(r, n) {
					wrong.Add(1)
				}
			}
		}
		both.Go(func() { side(0, r.Push) })
		both.Go(func() { side(1, func(int) bool { _, ok := r.Pop(); return ok }) })
		ends(t, both.Wait)
		if wrong.Load() > 0 {
			t.Errorf("room for %d: %d times a number of those that are in was told that it never was", n, wrong.Load())
		}
		holds(t, r, 0)
	}
}

// TestA2Turns has the two sides go from goroutine to goroutine, one behind the other.
func TestA2Turns(t *testing.T) {
	r := ringFor(t, 3)
	for i := range 1000 {
		var one sync.WaitGroup
		one.Go(func() {
			if !r.Push(i) || !r.Push(-i) {
				t.Errorf("turn %d: no room", i)
			}
		})
		one.Wait()
		one.Go(func() {
			a, okA := r.Pop()
			b, okB := r.Pop()
			c, okC := r.Pop()
			if a != i || b != -i || c != 0 || !okA || !okB || okC {
				t.Errorf("turn %d: %d %d %d come, %v %v %v", i, a, b, c, okA, okB, okC)
			}
		})
		one.Wait()
	}
}
