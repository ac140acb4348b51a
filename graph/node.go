package graph

import (
	"cantus/api"
	"cantus/filter"
	"cantus/voice"
)

// stretch is some samples that are made at once: what comes in, at which place of it they begin, and what each node makes there.
type stretch struct {
	ins  [][]float64
	at   int
	made [][]float64
}

// node makes as many numbers as out has places, of those that the nodes to which it listens have made.
type node interface {
	from() []int
	play(s stretch, out []float64)
}

// late is a node that can tell ahead: what it makes in a stretch of at most that length hangs on nothing that it hears there.
type late interface {
	ahead() int
	hear(s stretch)
}

// rester is a node that remembers, and can come to rest.
type rester interface {
	Rest()
}

// ears are the nodes to which a node listens.
type ears []int

func (e ears) from() []int { return e }

// act is what a node does that does not remember.
type act func(s stretch, out []float64)

func (a act) play(s stretch, out []float64) { a(s, out) }

type simple struct {
	ears
	act
}

func input(place int) act {
	return func(s stretch, out []float64) { copy(out, s.ins[place][s.at:]) }
}

func steady(x float64) act {
	return func(_ stretch, out []float64) {
		for i := range out {
			out[i] = x
		}
	}
}

func gain(x float64, of int) act {
	return func(s stretch, out []float64) {
		for i, y := range s.made[of] {
			out[i] = float64(x * y)
		}
	}
}

// mix begins with the first one as it is: 0 and -0 would be 0.
func mix(l []int) act {
	if len(l) == 0 {
		return steady(0)
	}
	return func(s stretch, out []float64) {
		copy(out, s.made[l[0]])
		for _, k := range l[1:] {
			for i, y := range s.made[k] {
				out[i] += y
			}
		}
	}
}

func times(one, other int) act {
	return func(s stretch, out []float64) {
		for i, x := range s.made[one] {
			out[i] = float64(x * s.made[other][i])
		}
	}
}

// delay keeps what it heard last, as many numbers as it is late: the oldest one stands at place at.
type delay struct {
	ears
	heard []float64
	at    int
}

func (d *delay) ahead() int { return len(d.heard) }

func (d *delay) play(_ stretch, out []float64) {
	n := copy(out, d.heard[d.at:])
	copy(out[n:], d.heard)
}

func (d *delay) hear(s stretch) {
	in := s.made[d.ears[0]]
	n := copy(d.heard[d.at:], in)
	copy(d.heard, in[n:])
	d.at = (d.at + len(in)) % len(d.heard)
}

func (d *delay) Rest() {
	clear(d.heard)
	d.at = 0
}

// strainer comes to rest as its filter does.
type strainer struct {
	ears
	*filter.Filter
}

func newStrainer(e ears, c api.Coefs) (node, api.Errno) {
	f, err := filter.New(c)
	if err != api.OK {
		return nil, err
	}
	return strainer{e, f}, api.OK
}

func (x strainer) play(s stretch, out []float64) { copy(out, x.Run(s.made[x.ears[0]])) }

type singer struct {
	ears
	*voice.Voice
	patch api.Patch
}

func newSinger(e ears, p api.Patch) (node, api.Errno) {
	v, err := voice.New(p)
	if err != api.OK {
		return nil, err
	}
	return &singer{e, v, p}, api.OK
}

// play asks for no more samples than a block has.
func (x *singer) play(_ stretch, out []float64) {
	l, _ := x.Render(len(out))
	copy(out, l)
}

// Rest takes a new voice, as a voice does not go back; of this patch there is one.
func (x *singer) Rest() { x.Voice, _ = voice.New(x.patch) }
