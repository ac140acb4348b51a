package codec

import (
	"math"

	"cantus/api"
)

// The bits of a frame's parts.
const (
	orderBits  = 2
	keyBits    = 4
	sampleBits = 16
)

// maxFolded is above all that is folded: a guess is at most 7 times as far from 0 as a sample may be, and a sample so at most 8 times from its guess.
const maxFolded = 16 * (api.Full + 1)

// code is how a frame is written.
type code struct{ order, key int }

// shortest is the code with which a frame has the fewest bits; the lower ones are tried first, and stay where a higher one is only as good.
func shortest(frame []int) code {
	var found code
	fewest := math.MaxInt
	for order := range api.MaxOrder + 1 {
		plain := sampleBits * min(order, len(frame))
		folds := foldAll(frame, order)
		for key := range 1 << keyBits {
			if bits := plain + foldedBits(folds, key); bits < fewest {
				found, fewest = code{order, key}, bits
			}
		}
	}
	return found
}

// foldAll is what is told of the samples that are guessed.
func foldAll(frame []int, order int) []int {
	var out []int
	for i := order; i < len(frame); i++ {
		out = append(out, fold(frame[i]-guess(frame[:i], order)))
	}
	return out
}

// foldedBits are how many bits numbers have together.
func foldedBits(folds []int, key int) int {
	bits := len(folds) * (1 + key)
	for _, m := range folds {
		bits += m >> key
	}
	return bits
}

// frame writes one: its code, its first samples as they are, and what is told of the others.
func (w *writer) frame(frame []int, c code) {
	w.number(c.order, orderBits)
	w.number(c.key, keyBits)
	for _, sample := range frame[:min(c.order, len(frame))] {
		w.number(sample+api.Full+1, sampleBits)
	}
	for _, m := range foldAll(frame, c.order) {
		w.folded(m, c.key)
	}
}

func (w *writer) folded(m, key int) {
	for range m >> key {
		w.bit(1)
	}
	w.bit(0)
	w.number(m, key) // only the lowest bits are put, which are m modulo 2^key
}

// frame reads one of so many samples, and puts them behind those that are there.
func (r *reader) frame(out []int, long int) ([]int, bool) {
	c, ok := r.code()
	if !ok {
		return nil, false
	}
	for i := range long {
		var sample int
		if i < c.order {
			sample, ok = r.plain()
		} else {
			sample, ok = r.guessed(out, c)
		}
		if !ok {
			return nil, false
		}
		out = append(out, sample)
	}
	return out, true
}

func (r *reader) code() (code, bool) {
	n, ok := r.number(orderBits + keyBits)
	return code{order: n >> keyBits, key: n % (1 << keyBits)}, ok
}

func (r *reader) plain() (int, bool) {
	n, ok := r.number(sampleBits)
	return n - api.Full - 1, ok
}

// guessed reads the sample behind those that are there.
func (r *reader) guessed(ahead []int, c code) (int, bool) {
	m, ok := r.folded(c.key)
	sample := guess(ahead, c.order) + unfold(m)
	return sample, ok && isSample(sample)
}

// folded reads a number below maxFolded: of a greater one no sample would come.
func (r *reader) folded(key int) (int, bool) {
	for high := range maxFolded >> key {
		bit, ok := r.bit()
		if !ok {
			return 0, false
		}
		if bit == 0 {
			low, ok := r.number(key)
			return high<<key + low, ok
		}
	}
	return 0, false
}

// guess is where a sample would be if it, or how it rises, or how its rise rises, stayed as it was; there are at least order samples ahead.
func guess(ahead []int, order int) int {
	n := len(ahead)
	switch order {
	case 1:
		return ahead[n-1]
	case 2:
		return 2*ahead[n-1] - ahead[n-2]
	case 3:
		return 3*ahead[n-1] - 3*ahead[n-2] + ahead[n-3]
	}
	return 0
}

// fold makes numbers on either side of 0 into those from 0 on, in turn, so that small ones stay small.
func fold(d int) int {
	if d < 0 {
		return -2*d - 1
	}
	return 2 * d
}

func unfold(m int) int {
	if m%2 == 1 {
		return -(m + 1) / 2
	}
	return m / 2
}
