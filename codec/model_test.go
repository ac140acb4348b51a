package codec_test

import (
	"math/rand"
	"strings"
)

// The model has bits as texts of 0 and 1, and is the chapter word by word.

// digits is a number in so many bits.
func digits(n, bits int) string {
	out := ""
	for range bits {
		out = string(rune('0'+n%2)) + out
		n /= 2
	}
	return out
}

// packed is bits in bytes, with bits 0 up to the end of the last one.
func packed(bits string) string {
	var out []byte
	for at := 0; at < len(bits); at += 8 {
		c := 0
		for i := range 8 {
			c *= 2
			if at+i < len(bits) && bits[at+i] == '1' {
				c++
			}
		}
		out = append(out, byte(c))
	}
	return string(out)
}

func unpacked(b string) string {
	var out strings.Builder
	for i := range len(b) {
		out.WriteString(digits(int(b[i]), 8))
	}
	return out.String()
}

// told is how far a sample is from its guess, folded.
func told(l []int, i, order int) int {
	guesses := []func() int{
		func() int { return 0 },
		func() int { return l[i-1] },
		func() int { return 2*l[i-1] - l[i-2] },
		func() int { return 3*l[i-1] - 3*l[i-2] + l[i-3] },
	}
	d := l[i] - guesses[order]()
	if d < 0 {
		return -2*d - 1
	}
	return 2 * d
}

// frameBits is a frame with an order and a key; ok tells whether there are at most so many bits.
func frameBits(l []int, order, key, most int) (bits string, ok bool) {
	var out strings.Builder
	out.WriteString(digits(order, 2) + digits(key, 4))
	power := 1
	for range key {
		power *= 2
	}
	for i := range l {
		if i < order {
			out.WriteString(digits(l[i]+32768, 16))
		} else {
			m := told(l, i, order)
			if out.Len()+m/power > most {
				return "", false
			}
			out.WriteString(strings.Repeat("1", m/power) + "0" + digits(m%power, key))
		}
	}
	return out.String(), out.Len() <= most
}

// bestBits is a frame with the fewest bits. More than 17 for a sample they are not, as many as order 0 has at most with key 15.
func bestBits(l []int) string {
	best, most := "", 6+17*len(l)
	for order := range 4 {
		for key := range 16 {
			if bits, ok := frameBits(l, order, key, most); ok {
				best, most = bits, len(bits)-1
			}
		}
	}
	return best
}

func encoded(l []int) string {
	bits := digits(len(l), 24)
	for ; len(l) > 256; l = l[256:] {
		bits += bestBits(l[:256])
	}
	if len(l) > 0 {
		bits += bestBits(l)
	}
	return packed(bits)
}

// coded is samples whose frames have the codes that are drawn, right ones all of them, but seldom the best.
func coded(r *rand.Rand, l []int) string {
	bits := digits(len(l), 24)
	for len(l) > 0 {
		n := min(256, len(l))
		for {
			frame, ok := frameBits(l[:n], r.Intn(4), r.Intn(16), 100000)
			if ok {
				bits += frame
				break
			}
		}
		l = l[n:]
	}
	return packed(bits)
}

// text reads bits, and is broken as soon as one is missing.
type text struct {
	bits   string
	broken bool
}

func (x *text) take(n int) int {
	if n > len(x.bits) {
		x.bits, x.broken = "", true
		return 0
	}
	out := 0
	for _, c := range x.bits[:n] {
		out = 2*out + int(c-'0')
	}
	x.bits = x.bits[n:]
	return out
}

func (x *text) takeTold(key int) int {
	ones := strings.IndexByte(x.bits, '0')
	if ones < 0 {
		x.broken = true
		return 0
	}
	x.bits = x.bits[ones+1:]
	return unfolded(ones<<key + x.take(key))
}

// decoded is the samples of bytes that do not tell too many.
func decoded(b string) (l []int, ok bool) {
	x := &text{bits: unpacked(b)}
	many := x.take(24)
	for len(l) < many && !x.broken {
		order, key := x.take(2), x.take(4)
		var frame []int
		for i := range min(256, many-len(l)) {
			if i < order {
				frame = append(frame, x.take(16)-32768)
			} else {
				frame = append(frame, 0)
				frame[i] = x.takeTold(key) - unfolded(told(frame, i, order)) // 0 is as far from its guess as the guess is on the other side of 0
			}
			if x.broken || frame[i] < -32768 || frame[i] > 32767 {
				return nil, false
			}
		}
		l = append(l, frame...)
	}
	if x.broken || len(x.bits) >= 8 || strings.Contains(x.bits, "1") {
		return nil, false
	}
	return l, true
}

func unfolded(m int) int {
	if m%2 == 1 {
		return -(m + 1) / 2
	}
	return m / 2
}
