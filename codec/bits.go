package codec

// writer puts bits into bytes, from the highest on. The last byte's bits that are still free are 0, so that there is nothing to do at the end.
type writer struct {
	bytes []byte
	free  int // bits of the last byte
}

func (w *writer) bit(bit int) {
	if w.free == 0 {
		w.bytes = append(w.bytes, 0)
		w.free = 8
	}
	w.free--
	w.bytes[len(w.bytes)-1] |= byte(bit << w.free)
}

// number puts a number into so many bits, its highest one first.
func (w *writer) number(n, bits int) {
	for i := range bits {
		w.bit(n >> (bits - 1 - i) & 1)
	}
}

// reader takes bits out of bytes, as a writer puts them.
type reader struct {
	bytes string
	at    int // the bit that comes next
}

func (r *reader) bit() (int, bool) {
	if r.at/8 >= len(r.bytes) {
		return 0, false
	}
	bit := int(r.bytes[r.at/8]) >> (7 - r.at%8) & 1
	r.at++
	return bit, true
}

func (r *reader) number(bits int) (int, bool) {
	n := 0
	for range bits {
		bit, ok := r.bit()
		if !ok {
			return 0, false
		}
		n = 2*n + bit
	}
	return n, true
}

// isAtEnd: nothing is left but what fills up the last byte.
func (r *reader) isAtEnd() bool {
	left := 8*len(r.bytes) - r.at
	if left >= 8 {
		return false
	}
	rest, _ := r.number(left)
	return rest == 0
}
