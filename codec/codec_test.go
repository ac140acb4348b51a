package codec_test

import (
	"fmt"
	"math"
	"math/rand"
	"slices"
	"strings"
	"testing"

	"cantus/api"
	"cantus/codec"
)

const least, most = -32768, 32767

// name tells samples, or, of many, how many they are.
func name(l []int) string {
	if len(l) > 20 {
		return fmt.Sprintf("%d samples, %v first", len(l), l[:8])
	}
	return fmt.Sprint(l)
}

// goesThere: Encode tells these bytes, and Decode the samples of them.
func goesThere(t *testing.T, l []int, want string) {
	t.Helper()
	b, err := codec.Encode(l)
	if err != api.OK || b != want {
		t.Fatalf("%s: %d bytes, %.60x, %d; not %d, %.60x", name(l), len(b), b, err, len(want), want)
	}
	comesBack(t, b, l)
}

func comesBack(t *testing.T, b string, want []int) {
	t.Helper()
	if l, err := codec.Decode(b); err != api.OK || !slices.Equal(l, want) {
		t.Fatalf("%d bytes, %.60x: %s, %d; not %s", len(b), b, name(l), err, name(want))
	}
}

// isRefused: Decode tells this, and no samples.
func isRefused(t *testing.T, b string, want api.Errno) {
	t.Helper()
	if l, err := codec.Decode(b); err != want || len(l) != 0 {
		t.Errorf("%d bytes, %.60x: %s, %d; not %d", len(b), b, name(l), err, want)
	}
}

// is packs bits that are told in pieces.
func is(pieces ...string) string {
	return packed(strings.ReplaceAll(strings.Join(pieces, ""), " ", ""))
}

// drawn is so many samples that go as far as that from the one ahead.
func drawn(r *rand.Rand, n, step int) []int {
	out := make([]int, n)
	at := 0
	for i := range out {
		at = min(max(at+r.Intn(2*step+1)-step, least), most)
		out[i] = at
	}
	return out
}

// wave is so many samples of a wave (of the period 1: of silence), with noise.
func wave(r *rand.Rand, n int, period float64, noise int) []int {
	out := make([]int, n)
	for i := range out {
		x := int(30000 * math.Sin(2*math.Pi*float64(i)/period))
		out[i] = min(max(x+r.Intn(2*noise+1)-noise, least), most)
	}
	return out
}

// extremes are those that are as far from their guesses as there are any.
func extremes(n int) [][]int {
	var out [][]int
	for _, period := range [][]int{
		{most, least}, {least, most}, {least, most, most}, {least, least, most}, {least}, {most}, {least, most, least, least}, {0, most, least, most},
	} {
		l := make([]int, n)
		for i := range l {
			l[i] = period[i%len(period)]
		}
		out = append(out, l)
	}
	return out
}

// allCodes does it for all orders and keys.
func allCodes(do func(order, key int)) {
	for order := range 4 {
		for key := range 16 {
			do(order, key)
		}
	}
}

func TestI1Bytes(t *testing.T) {
	goesThere(t, nil, "\x00\x00\x00")
	goesThere(t, []int{}, "\x00\x00\x00")
	// 24 bits; order 0, key 2; 10 is twice 4 and 2.
	goesThere(t, []int{5}, is("000000000000000000000001", "00 0010", "110 10", "00000"))
	// A piece that ends with a byte has nothing behind it.
	goesThere(t, []int{0, 0}, is("000000000000000000000010", "00 0000", "0 0"))
	// A byte that ends within a piece: one bit is used of the last one.
	goesThere(t, []int{0, 0, 0}, is("000000000000000000000011", "00 0000", "0 0 0", "0000000"))
}

// TestI1Frames: frames of 256, the last one of those that are left, each for itself.
func TestI1Frames(t *testing.T) {
	const one = "00 0010 110 10" // {5}
	zeros := "00 0000" + strings.Repeat("0", 256)
	for frames := range 4 {
		l := make([]int, 256*frames)
		bits := strings.Repeat(zeros, frames)
		goesThere(t, l, is(digits(len(l), 24), bits))
		goesThere(t, append(l, 5), is(digits(len(l)+1, 24), bits, one))
		if frames > 0 {
			l = l[:len(l)-1]
			goesThere(t, l, is(digits(len(l), 24), bits[1:]))
		}
	}
	// No guess looks into the frame ahead: each one begins with a sample as itself.
	a := slices.Repeat([]int{20000}, 256)
	b := slices.Repeat([]int{-20000}, 256)
	bits := func(plain string) string { return "01 0000" + plain + strings.Repeat("0", 255) }
	goesThere(t, slices.Concat(a, b, a), is(digits(768, 24), bits(digits(52768, 16)), bits(digits(12768, 16)), bits(digits(52768, 16))))
}

func TestI1Lengths(t *testing.T) {
	r := rand.New(rand.NewSource(1))
	for _, n := range []int{1, 2, 3, 4, 5, 255, 256, 257, 258, 259, 260, 511, 512, 513, 1024, 1025, 3000} {
		for _, step := range []int{0, 1, 100, 10000} {
			l := drawn(r, n, step)
			goesThere(t, l, encoded(l))
		}
	}
}

// TestI2Examples are worked out by hand, one of each order.
func TestI2Examples(t *testing.T) {
	for _, x := range []struct {
		many int
		bits string
		want []int
	}{
		// Of order 0: 0 is 0, -1 is 1, 1 is 2, -2 is 3, 2 is 4.
		{5, "00 0000 0 10 110 1110 11110", []int{0, -1, 1, -2, 2}},
		{5, "00 0001 00 01 100 101 1100", []int{0, -1, 1, -2, 2}},
		{5, "00 0011 0000 0001 0010 0011 0100", []int{0, -1, 1, -2, 2}},
		{2, "00 1111 0 111111111111111 10 111111111111111", []int{-16384, -32768}},
		{2, "00 1111 0 000000000000000 10 111111111111110", []int{0, 32767}},
		// Of order 1: itself and 32768; then 1 more, 3 less.
		{3, "01 0001 1000000000000111 100 1101", []int{7, 8, 5}},
		{1, "01 0101 0000000000000000", []int{-32768}},
		{1, "01 0101 1111111111111111", []int{32767}},
		// Of order 2: 10, 13, guess 16 but 1 more; guess 21 but 2 less.
		{4, "10 0010 1000000000001010 1000000000001101 0 10 0 11", []int{10, 13, 17, 19}},
		{1, "10 0010 1000000000001010", []int{10}},
		{2, "10 0010 1000000000001010 1000000000001101", []int{10, 13}},
		// Of order 3: 1, 4, 9; guess 16; guess 25 but 1 less, guess 33 (3 24 - 3 16 + 9) but 5 more.
		{6, "11 0001 1000000000000001 1000000000000100 1000000000001001 00 01 1111100", []int{1, 4, 9, 16, 24, 38}},
		{1, "11 1111 1000000000000001", []int{1}},
		{2, "11 1111 1000000000000001 0111111111111111", []int{1, -1}},
		{3, "11 1111 1000000000000001 0111111111111111 1000000000000000", []int{1, -1, 0}},
	} {
		comesBack(t, is(digits(x.many, 24), x.bits), x.want)
	}
}

// TestI2Codes: with whatever order and key, the same samples come back.
func TestI2Codes(t *testing.T) {
	r := rand.New(rand.NewSource(2))
	lists := extremes(12)
	for n := range 8 {
		lists = append(lists, drawn(r, n, 3), drawn(r, n, 5000), wave(r, n, 30, 10))
	}
	for _, n := range []int{30, 255, 256} {
		lists = append(lists, drawn(r, n, 100), wave(r, n, 100, 100))
	}
	for _, l := range lists {
		if len(l) == 0 {
			continue
		}
		allCodes(func(order, key int) {
			bits, _ := frameBits(l, order, key, 1<<30)
			comesBack(t, is(digits(len(l), 24), bits), l)
		})
	}
}

// TestI2Mixed: each frame has a code of its own.
func TestI2Mixed(t *testing.T) {
	r := rand.New(rand.NewSource(3))
	for _, n := range []int{256, 257, 512, 700, 1025, 2000} {
		for range 10 {
			l := drawn(r, n, 1<<r.Intn(12))
			comesBack(t, coded(r, l), l)
		}
	}
}

// TestI3Examples: the code that is taken is seen in the first six bits behind the number of samples.
func TestI3Examples(t *testing.T) {
	for _, x := range []struct {
		l    []int
		bits string
	}{
		// Several keys are as good: the least one.
		{[]int{0}, "00 0000 0"},
		{[]int{-1}, "00 0000 10"},  // of key 1: 01
		{[]int{1}, "00 0000 110"},  // of key 1: 100
		{[]int{-2}, "00 0001 101"}, // of key 0: 1110; of key 2: 011
		{[]int{2}, "00 0001 1100"}, // of key 0: 11110; of key 2: 1000
		{[]int{4096}, "00 1100 110 000000000000"},
		// Order 0 and order 1 are as good: 16 bits.
		{[]int{16383}, "00 1110 10 11111111111110"},
		{[]int{-16384}, "00 1110 10 11111111111111"},
		// Order 0 has 17 bits, orders 1 to 3 have 16.
		{[]int{16384}, "01 0000 1100000000000000"},
		{[]int{-16385}, "01 0000 0011111111111111"},
		{[]int{least}, "01 0000 0000000000000000"},
		{[]int{most}, "01 0000 1111111111111111"},
		// Order 0 has 34 bits, order 1 has 35, orders 2 and 3 have 32.
		{[]int{most, least}, "10 0000 1111111111111111 0000000000000000"},
		// Order 3 alone has 48.
		{[]int{most, least, most}, "11 0000 1111111111111111 0000000000000000 1111111111111111"},
		{slices.Repeat([]int{100}, 4), "01 0000 1000000001100100 0 0 0"},
		{[]int{0, 1000, 2000, 3000, 4000, 5000}, "10 0000 1000000000000000 1000001111101000 0 0 0 0"},
		{[]int{0, 1000, 4000, 9000, 16000, 25000}, "11 0000 1000000000000000 1000001111101000 1000111110100000 0 0 0"},
	} {
		goesThere(t, x.l, is(digits(len(x.l), 24), x.bits))
	}
}

// TestI3Singles: all samples that there are, alone.
func TestI3Singles(t *testing.T) {
	for n := least; n <= most; n++ {
		l := []int{n}
		b, err := codec.Encode(l)
		if err != api.OK || n%37 == 0 && b != encoded(l) {
			t.Fatalf("%d: %x, %d; not %x", n, b, err, encoded(l))
		}
		comesBack(t, b, l)
	}
}

// TestI3Short: all short lists of a few samples, among which there are many codes that are as good.
func TestI3Short(t *testing.T) {
	few := []int{-3, -1, 0, 1, 40}
	var grow func(l []int)
	grow = func(l []int) {
		goesThere(t, l, encoded(l))
		if len(l) < 5 {
			for _, n := range few {
				grow(append(slices.Clone(l), n))
			}
		}
	}
	grow(nil)
}

// TestI3Drawn: all orders, with many keys, are the best somewhere.
func TestI3Drawn(t *testing.T) {
	r := rand.New(rand.NewSource(4))
	seen := map[string]bool{}
	try := func(l []int) {
		goesThere(t, l, encoded(l))
		b, _ := codec.Encode(l)
		seen[unpacked(b[3:4])[:6]] = true
	}
	for noise := 0; noise < 1<<16; noise = 2*noise + 1 {
		for _, n := range []int{2, 3, 4, 6, 9, 40, 256, 300} {
			try(drawn(r, n, noise))
			for _, period := range []float64{1, 20, 60, 110, 200, 500} {
				try(wave(r, n, period, noise))
			}
		}
	}
	for order := range 4 {
		for key := 2; key <= 9; key++ {
			if code := digits(order, 2) + digits(key, 4); !seen[code] {
				t.Errorf("no list had order and key %s", code)
			}
		}
	}
	for key := range 15 {
		if code := "00" + digits(key, 4); !seen[code] {
			t.Errorf("no list had order and key %s", code)
		}
	}
}

func TestI3Extremes(t *testing.T) {
	for _, n := range []int{4, 5, 256, 257} {
		for _, l := range extremes(n) {
			goesThere(t, l, encoded(l))
		}
	}
}

func TestI3Wrong(t *testing.T) {
	for _, bad := range []int{most + 1, least - 1, 1 << 16, -1 << 16, 1 << 32, 1<<32 + 5, math.MaxInt, math.MinInt} {
		for _, l := range [][]int{{bad}, {bad, 0, 0}, {0, 0, bad}, append(make([]int, 256), bad), append(make([]int, api.MaxSamples-1), bad)} {
			if b, err := codec.Encode(l); err != api.ErrRange || b != "" {
				t.Errorf("%s with %d: %d bytes, %d", name(l), bad, len(b), err)
			}
		}
		// Too many are told ahead of one that is too great.
		many := make([]int, api.MaxSamples+1)
		many[0], many[api.MaxSamples] = bad, bad
		if b, err := codec.Encode(many); err != api.ErrMany || b != "" {
			t.Errorf("too many with %d: %d bytes, %d", bad, len(b), err)
		}
	}
	if b, err := codec.Encode(make([]int, api.MaxSamples+1)); err != api.ErrMany || b != "" {
		t.Errorf("too many: %d bytes, %d", len(b), err)
	}
}

// TestI3Most: as many samples as there may be.
func TestI3Most(t *testing.T) {
	zeros := make([]int, api.MaxSamples)
	frame := "000000" + strings.Repeat("0", 256)
	goesThere(t, zeros, is(digits(api.MaxSamples, 24), strings.Repeat(frame, api.MaxSamples/256)))
	l := drawn(rand.New(rand.NewSource(5)), api.MaxSamples, 3000)
	b, err := codec.Encode(l)
	if err != api.OK || len(b) > 2*len(l) {
		t.Fatalf("%d bytes, %d", len(b), err)
	}
	comesBack(t, b, l)
}

func TestI4Head(t *testing.T) {
	for _, b := range []string{"", "\x00", "\xff", "\x00\x00", "\xff\xff", "\x10\x00"} {
		isRefused(t, b, api.ErrForm)
	}
	comesBack(t, "\x00\x00\x00", nil)
	for _, many := range []int{api.MaxSamples + 1, api.MaxSamples + 256, 1 << 21, 1<<24 - 1} {
		for _, behind := range []string{"", "\x00", "\xff\xff\xff", strings.Repeat("\x00", 200000)} {
			isRefused(t, is(digits(many, 24))+behind, api.ErrMany)
		}
	}
	isRefused(t, "\x10\x00\x00", api.ErrForm)
	isRefused(t, "\x10\x00\x00"+strings.Repeat("\x00", 1000), api.ErrForm)
}

// TestI4Early: no beginning of right bytes is right.
func TestI4Early(t *testing.T) {
	r := rand.New(rand.NewSource(6))
	for _, n := range []int{1, 2, 3, 4, 10, 256, 257, 300, 600} {
		for _, step := range []int{0, 10, 3000} {
			l := drawn(r, n, step)
			for _, b := range []string{encoded(l), coded(r, l)} {
				for end := range len(b) {
					isRefused(t, b[:end], api.ErrForm)
				}
			}
		}
	}
	// Within each of the pieces: samples as themselves, the bits 1, and those behind the bit 0.
	for _, bits := range []string{"11 1111 1111111111", "11 1111 1000000000000000 10", "00 0000 11", "00 0011 10", "00 1111 0 1", "00 1111 0 111111111"} {
		isRefused(t, is(digits(4, 24), bits), api.ErrForm)
	}
}

// TestI4Late: behind the last frame are fewer than eight bits, all of them 0.
func TestI4Late(t *testing.T) {
	r := rand.New(rand.NewSource(7))
	for _, b := range []string{"\x00", "\x80", "\x01", "\x00\x00", "\x00\x00\x00\x00"} {
		isRefused(t, "\x00\x00\x00"+b, api.ErrForm)
	}
	ends := map[int]bool{}
	for many := range 40 {
		l := make([]int, many)
		for key := range 4 {
			bits := digits(many, 24)
			if many > 0 {
				frame, _ := frameBits(l, 0, key, 1<<30)
				bits += frame
			}
			b := packed(bits)
			comesBack(t, b, l)
			isRefused(t, b+"\x00", api.ErrForm)
			isRefused(t, b+string([]byte{byte(r.Intn(256))}), api.ErrForm)
			isRefused(t, b+b, api.ErrForm)
			left := 8*len(b) - len(bits)
			ends[left] = true
			for i := range left {
				isRefused(t, b[:len(b)-1]+string([]byte{b[len(b)-1] | 1<<i}), api.ErrForm)
			}
		}
	}
	if len(ends) != 8 {
		t.Errorf("only so many bits were left: %v", ends)
	}
}

// TestI4Range: a sample that is just within the bounds, and one beyond them, of each order and key.
func TestI4Range(t *testing.T) {
	for _, x := range []struct {
		order int
		l     []int
		right bool
	}{
		{0, []int{most}, true}, {0, []int{most + 1}, false}, {0, []int{least}, true}, {0, []int{least - 1}, false},
		{0, []int{5, most + 1}, false}, {0, []int{most + 1, 5}, false},
		{1, []int{most, most}, true}, {1, []int{most, most + 1}, false}, {1, []int{most, least}, true}, {1, []int{most, least - 1}, false},
		{2, []int{0, 30000, most}, true}, {2, []int{0, 30000, most + 1}, false}, {2, []int{0, 30000, 60000}, false},
		{2, []int{least, most, least - 1}, false}, {2, []int{least, most, least}, true}, {2, []int{least, most, 98302}, false},
		{3, []int{most, least, most, least}, true}, {3, []int{most, least, most, least - 1}, false},
		{3, []int{least, most, least, most}, true}, {3, []int{least, most, least, most + 1}, false},
		{3, []int{most, least, most, 229372}, false}, {3, []int{1, 2, 3, 4, 5, 70000, 5}, false},
		{0, []int{1 << 20}, false}, {0, []int{1 << 18}, false}, {0, []int{-1 << 18}, false}, {0, []int{1<<18 - 1}, false}, {0, []int{1<<16 + 5}, false},
	} {
		for key := range 16 {
			bits, _ := frameBits(x.l, x.order, key, 1<<30)
			if b := is(digits(len(x.l), 24), bits); x.right {
				comesBack(t, b, x.l)
			} else {
				isRefused(t, b, api.ErrForm)
			}
		}
	}
}

// TestI4Ones: however many bits 1 stand one behind the other, too many are no sample, and nothing wraps round.
func TestI4Ones(t *testing.T) {
	for _, key := range []int{0, 1, 7, 14, 15} {
		for _, n := range []int{2, 10, 18, 26, 34, 66, 1<<16 - 6, 1<<16 + 2, 1<<17 + 2, 1<<19 - 6, 1<<19 + 2, 1<<20 + 2} {
			bits := digits(1, 24) + "00" + digits(key, 4) + strings.Repeat("1", n)
			isRefused(t, packed(bits), api.ErrForm) // a byte ends with the last bit 1
			for _, low := range []int{0, 1<<key - 1} {
				follows(t, packed(bits+"0"+digits(low, key)))
			}
		}
	}
}

// follows holds Decode against the model.
func follows(t *testing.T, b string) {
	t.Helper()
	if l, ok := decoded(b); ok {
		comesBack(t, b, l)
	} else {
		isRefused(t, b, api.ErrForm)
	}
}

// TestI4AllBytes: of one to four samples all texts of two bytes behind the head.
func TestI4AllBytes(t *testing.T) {
	for many := 1; many <= 4; many++ {
		for n := range 1 << 16 {
			follows(t, is(digits(many, 24), digits(n, 16)))
		}
	}
	for many := range 256 {
		for n := range 256 {
			follows(t, is(digits(many, 24), digits(n, 8)))
		}
	}
}

// TestI4Drawn: bytes of which some are wrong, and bytes that are drawn.
func TestI4Drawn(t *testing.T) {
	r := rand.New(rand.NewSource(8))
	for range 20000 {
		l := drawn(r, 1+r.Intn(12), 1<<r.Intn(14))
		b := []byte(coded(r, l))
		for range r.Intn(3) {
			b[3+r.Intn(len(b)-3)] ^= 1 << r.Intn(8)
		}
		follows(t, string(b))
	}
	for range 20000 {
		b := make([]byte, 3+r.Intn(40))
		for i := 2; i < len(b); i++ {
			b[i] = byte(r.Intn(256))
		}
		b[2] %= 40
		follows(t, string(b))
	}
}

// TestE2OnlyRead: samples are only read, what is answered is new, and one call does not know of another.
func TestE2OnlyRead(t *testing.T) {
	room := drawn(rand.New(rand.NewSource(9)), 600, 500)
	l := room[:500]
	before := slices.Clone(room)
	b, err := codec.Encode(l)
	if err != api.OK || !slices.Equal(room, before) {
		t.Fatalf("%d, or what was handed in has changed", err)
	}
	first, _ := codec.Decode(b)
	second, _ := codec.Decode(b)
	clear(first[:cap(first)])
	if !slices.Equal(second, before[:500]) {
		t.Error("two answers share memory")
	}
	clear(room)
	comesBack(t, b, before[:500])
	goesThere(t, second, b)
}
