package mix

import "cantus/api"

// maxSum is the greatest that tracks can be together, without its sign.
const maxSum = api.MaxTracks * api.MaxLoud * api.MaxSample

// Dither makes sums into samples, with a little noise that hangs on nothing but how many there were.
type Dither struct {
	seed    uint32
	rest    int // what is left of the sums so far: more than -2^16, less than 2^16
	Loud    int // the greatest that there was, without its sign
	Clipped int // how many were too great
}

// NewDither is one with a seed.
func NewDither(seed uint32) *Dither { return &Dither{seed: seed} }

// Run makes sums into samples: what is rounded off goes on to the next one.
func (d *Dither) Run(sums []int) ([]int, api.Errno) {
	if !within(maxSum, sums...) {
		return nil, api.ErrRange
	}
	out := make([]int, len(sums))
	for i, sum := range sums {
		n := d.clip(d.split(sum))
		d.Loud = max(d.Loud, n, -n)
		out[i] = n
	}
	return out, api.OK
}

// split takes of a sum and the rest what is told, and leaves the new rest. The noise is added for the telling alone, so that it is no part of the rest.
func (d *Dither) split(sum int) int {
	s := sum + d.rest
	n := (s + d.noise()) >> 16 // a shift rounds down, below 0 too, where a quotient would not
	d.rest = s - n<<16
	return n
}

// noise is the next one, from 0 on below 2^16: the upper half of the seed, as the lower one comes round again too soon.
func (d *Dither) noise() int {
	d.seed = 1664525*d.seed + 1013904223
	return int(d.seed >> 16)
}

// clip forgets the rest of what is too great, or it would be heard long behind it.
func (d *Dither) clip(n int) int {
	near := min(max(n, -api.Full-1), api.Full)
	if near != n {
		d.rest = 0
		d.Clipped++
	}
	return near
}
