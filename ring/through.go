package ring

import (
	"sync"

	"cantus/api"
)

// Through hands numbers through a ring, from one goroutine to another one: what comes out.
func Through(n int, l []int) ([]int, api.Errno) {
	r, err := New(n)
	if err != api.OK {
		return nil, err
	}
	room, more := newBell(), newBell()
	var giver sync.WaitGroup
	giver.Add(1)
	go func() {
		defer giver.Done()
		r.give(l, room, more)
	}()
	out := r.take(len(l), room, more)
	giver.Wait() // all has come out, but the giver may still be at its last stroke
	return out, api.OK
}

// give puts the numbers in, and waits for room where there is none.
func (r *Ring) give(l []int, room, more bell) {
	for _, x := range l {
		for !r.Push(x) {
			room.wait()
		}
		more.strike()
	}
}

// take takes so many numbers out, and waits for more where there is none.
func (r *Ring) take(many int, room, more bell) []int {
	out := make([]int, many)
	for i := range out {
		x, ok := r.Pop()
		for !ok {
			more.wait()
			x, ok = r.Pop()
		}
		out[i] = x
		room.strike()
	}
	return out
}

// bell has room for one stroke, which is kept until somebody waits for it: who has looked in vain, and waits only then, does not miss what came between.
type bell chan struct{}

func newBell() bell { return make(bell, 1) }

// strike does not wait: a stroke that nobody has heard so far tells as much as two.
func (b bell) strike() {
	select {
	case b <- struct{}{}:
	default:
	}
}

// wait ends with a stroke, maybe of long ago: who waits has to look again.
func (b bell) wait() { <-b }
