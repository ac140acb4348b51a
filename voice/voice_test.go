package voice_test

import (
	"math"
	"math/big"
	"math/rand"
	"testing"

	"cantus/api"
	"cantus/voice"
)

// levelPatch is a voice whose samples are its levels, in parts of One.
func levelPatch(attack, decay, release, sustain int) api.Patch {
	return api.Patch{Shape: api.ShapeSquare, Gain: 1, Attack: attack, Decay: decay, Release: release, Sustain: sustain}
}

func begin(t *testing.T, p api.Patch) *voice.Voice {
	t.Helper()
	v, err := voice.New(p)
	if err != api.OK || v == nil {
		t.Fatalf("%+v: %v %d", p, v, err)
	}
	return v
}

// render takes more samples than one block has, if it must.
func render(t *testing.T, v *voice.Voice, n int) []float64 {
	t.Helper()
	var out []float64
	for n > 0 {
		now := min(n, api.MaxBlock)
		l, err := v.Render(now)
		if len(l) != now || err != api.OK {
			t.Fatalf("%d samples: %d of them, %d", now, len(l), err)
		}
		out, n = append(out, l...), n-now
	}
	return out
}

func sameAll(t *testing.T, name string, got, want []float64) {
	t.Helper()
	if len(got) != len(want) {
		t.Fatalf("%s: %d samples, not %d", name, len(got), len(want))
	}
	for i := range got {
		if !same(got[i], want[i]) {
			t.Fatalf("%s: sample %d is %x, not %x", name, i, got[i], want[i])
		}
	}
}

// part is n a / b without what is behind the point, by numbers without bounds.
func part(n, a, b int) int {
	x := new(big.Int).Mul(big.NewInt(int64(n)), big.NewInt(int64(a)))
	return int(x.Quo(x, big.NewInt(int64(b))).Int64())
}

// isHeld is O4's level so many samples behind the beginning.
func isHeld(p api.Patch, t int) int {
	if t < p.Attack {
		return part(1<<20, t, p.Attack)
	}
	if u := t - p.Attack; u < p.Decay {
		return 1<<20 - part(1<<20-p.Sustain, u, p.Decay)
	}
	return p.Sustain
}

// isLevel is O4's level at sample t of a voice that is let go at sample off (below 0: never).
func isLevel(p api.Patch, t, off int) int {
	if off < 0 || t < off {
		return isHeld(p, t)
	}
	if u := t - off; u < p.Release {
		return part(isHeld(p, off), p.Release-u, p.Release)
	}
	return 0
}

// isSound is O5's first n samples of a voice that is let go at sample off (below 0: never).
func isSound(p api.Patch, n, off int) []float64 {
	circle := isCircle()
	out := make([]float64, n)
	for t := range out {
		phase := uint32(uint64(t) * uint64(p.Step) % (1 << 32))
		x := isSine(circle, phase)
		if p.Shape != api.ShapeSine {
			x = isShape(p.Shape, phase)
		}
		out[t] = product(product(p.Gain, x), math.Ldexp(float64(isLevel(p, t, off)), -20))
	}
	return out
}

// sung is what a voice sings in pieces of these lengths, over and over, let go at sample off (below 0: never).
func sung(t *testing.T, p api.Patch, n, off int, pieces ...int) []float64 {
	t.Helper()
	v := begin(t, p)
	var out []float64
	for i := 0; len(out) < n; i++ {
		if len(out) == off {
			v.Off()
		}
		now := min(pieces[i%len(pieces)], n-len(out))
		if len(out) < off {
			now = min(now, off-len(out))
		}
		out = append(out, render(t, v, now)...)
	}
	return out
}

func TestO4Right(t *testing.T) {
	for _, p := range []api.Patch{
		{Shape: api.ShapeSine}, {Shape: api.ShapeSaw}, {Shape: api.ShapeSquare}, {Shape: api.ShapeTriangle},
		{Shape: 1, Gain: 1048576, Attack: 1 << 24, Decay: 1 << 24, Release: 1 << 24, Sustain: 1 << 20, Step: 1<<32 - 1},
		{Shape: 1, Gain: -1048576}, {Shape: 1, Gain: math.Copysign(0, -1)}, {Shape: 1, Gain: math.SmallestNonzeroFloat64},
	} {
		begin(t, p)
	}
}

func TestO4Wrong(t *testing.T) {
	right := api.Patch{Shape: 1, Step: 1 << 28, Gain: 0.75, Attack: 4, Decay: 6, Release: 5, Sustain: 1 << 19}
	refused := func(p api.Patch, want api.Errno) {
		t.Helper()
		if v, err := voice.New(p); v != nil || err != want {
			t.Errorf("%+v: %v %d, not %d", p, v, err, want)
		}
	}
	for _, shape := range wrongShapes() {
		p := right
		p.Shape = shape
		refused(p, api.ErrKind)
		// The kind is told first, whatever else is wrong.
		refused(api.Patch{Shape: shape, Gain: math.NaN(), Attack: -1, Decay: -1, Release: -1, Sustain: -1}, api.ErrKind)
	}
	for _, gain := range []float64{math.Nextafter(1048576, 1<<21), 1048577, -1048577, math.Nextafter(-1048576, -1<<21), math.MaxFloat64, math.Inf(1), math.Inf(-1), math.NaN(), -math.NaN()} {
		p := right
		p.Gain = gain
		refused(p, api.ErrRange)
	}
	for _, stage := range []int{math.MinInt, -1 << 32, -1, 1<<24 + 1, 1 << 32, math.MaxInt} {
		for i := range 3 {
			p := right
			*[]*int{&p.Attack, &p.Decay, &p.Release}[i] = stage
			refused(p, api.ErrRange)
		}
	}
	for _, sustain := range []int{math.MinInt, -1 << 32, -1, 1<<20 + 1, 1 << 24, 1 << 32, math.MaxInt} {
		p := right
		p.Sustain = sustain
		refused(p, api.ErrRange)
	}
}

func TestO4Examples(t *testing.T) {
	const one = api.One
	for _, x := range []struct {
		name string
		p    api.Patch
		off  int
		want []int
	}{
		{"all stages", levelPatch(4, 2, 2, one/2), 8, []int{0, one / 4, one / 2, 3 * one / 4, one, 3 * one / 4, one / 2, one / 2, one / 2, one / 4, 0, 0}},
		{"thirds", levelPatch(3, 3, 3, 0), -1, []int{0, 349525, 699050, one, one - 349525, one - 699050, 0, 0}},
		{"no stages", levelPatch(0, 0, 0, 7), 2, []int{7, 7, 0, 0}},
		{"no attack", levelPatch(0, 2, 0, 0), -1, []int{one, one / 2, 0, 0}},
		{"no decay", levelPatch(2, 0, 0, 5), -1, []int{0, one / 2, 5, 5}},
		{"one sample each", levelPatch(1, 1, 1, 5), 3, []int{0, one, 5, 5, 0, 0}},
		{"let go at once", levelPatch(4, 4, 4, one), 0, []int{0, 0, 0, 0, 0, 0}},
		{"let go in the attack", levelPatch(4, 4, 3, one), 2, []int{0, one / 4, one / 2, 349525, 174762, 0, 0}},
		{"let go in the decay", levelPatch(0, 4, 2, 0), 1, []int{one, 3 * one / 4, 3 * one / 8, 0}},
		{"let go as the attack ends", levelPatch(2, 4, 2, 0), 2, []int{0, one / 2, one, one / 2, 0}},
		{"let go as the decay ends", levelPatch(0, 2, 2, 9), 2, []int{one, one - (one-9)/2, 9, 4, 0}},
		{"no release", levelPatch(0, 4, 0, 0), 1, []int{one, 0, 0}},
		{"full all along", levelPatch(0, 3, 1, one), -1, []int{one, one, one, one, one}},
	} {
		got := sung(t, x.p, len(x.want), x.off, 1)
		for i, want := range x.want {
			if got[i] != math.Ldexp(float64(want), -20) {
				t.Errorf("%s: level %d is %v, not %d", x.name, i, got[i]*one, want)
			}
		}
	}
}

// TestO4Levels lets voices with each of some short stages go at each of their first samples, and never.
func TestO4Levels(t *testing.T) {
	stages := []int{0, 1, 2, 3, 7}
	for _, attack := range stages {
		for _, decay := range stages {
			for _, release := range stages {
				for _, sustain := range []int{0, 1, 333333, 1<<20 - 1, 1 << 20} {
					p := levelPatch(attack, decay, release, sustain)
					n := attack + decay + release + 6
					for off := -1; off <= attack+decay+3; off++ {
						sameAll(t, "levels", sung(t, p, n, off, n), isSound(p, n, off))
					}
				}
			}
		}
	}
}

// TestO4Long has the longest stages there are: nothing wraps round.
func TestO4Long(t *testing.T) {
	const long = api.MaxStage
	p := levelPatch(long, long, long, 1)
	v := begin(t, p)
	for from := 0; from < 2*long+api.MaxBlock; from += api.MaxBlock {
		l := render(t, v, api.MaxBlock)
		for _, i := range []int{0, 1, 12345, api.MaxBlock - 1} {
			if want := isHeld(p, from+i); l[i] != math.Ldexp(float64(want), -20) {
				t.Fatalf("level %d is %v, not %d", from+i, l[i]*api.One, want)
			}
		}
	}
	w := begin(t, levelPatch(0, 0, long, api.One))
	w.Off()
	for from := 0; from < long+api.MaxBlock; from += api.MaxBlock {
		l := render(t, w, api.MaxBlock)
		for _, i := range []int{0, 1, 12345, api.MaxBlock - 1} {
			want := max(0, part(1<<20, long-from-i, long))
			if l[i] != math.Ldexp(float64(want), -20) {
				t.Fatalf("level %d behind its end is %v, not %d", from+i, l[i]*api.One, want)
			}
		}
	}
}

// TestO4OffAgain: a voice that was let go isn't let go again.
func TestO4OffAgain(t *testing.T) {
	p := levelPatch(2, 3, 9, 400000)
	v := begin(t, p)
	got := render(t, v, 7)
	for range 12 {
		v.Off()
		v.Off()
		got = append(got, render(t, v, 1)...)
	}
	sameAll(t, "let go again", got, isSound(p, 19, 7))
}

func TestO5Examples(t *testing.T) {
	p := api.Patch{Shape: 1, Step: 1 << 28, Gain: 0.75, Attack: 4, Decay: 6, Release: 5, Sustain: 1 << 19}
	sameAll(t, "a sine", sung(t, p, 20, 12, 20), []float64{
		0, 0x1.25e69fd02ff0cp-04, 0x1.0f876ccdf6cddp-02, 0x1.0a13ca48c6f7cp-01, 0x1.8p-01, 0x1.4534a94b47063p-01, 0x1.c48c76a28f12ep-02, 0x1.b8d9efb847e92p-03,
		0, -0x1.56e27d9b6fea4p-03, -0x1.0f876ccdf6cddp-02, -0x1.62c50db65e9fbp-02,
		-0x1.8p-02, -0x1.1bd0c6080b037p-02, -0x1.45d57f75ac01p-03, -0x1.d63daf1c6fec6p-05, 0, 0, 0, 0,
	})
	saw := api.Patch{Shape: api.ShapeSaw, Step: 3 << 30, Gain: -2, Sustain: 1 << 20}
	sameAll(t, "a saw back to front", sung(t, saw, 6, 5, 6), []float64{math.Copysign(0, -1), 1, 2, -1, math.Copysign(0, -1), 0})
}

// drawn is a patch that is right.
func drawn(r *rand.Rand) api.Patch {
	stage := func() int { return r.Intn(2) * r.Intn(60) }
	gains := []float64{1, -1, 0, math.Copysign(0, -1), 1048576, -1048576, math.SmallestNonzeroFloat64, -0x1p-1060, 0.1, r.NormFloat64(), r.NormFloat64() * 1000}
	return api.Patch{
		Shape: 1 + r.Intn(4), Step: r.Uint32(), Gain: gains[r.Intn(len(gains))],
		Attack: stage(), Decay: stage(), Release: stage(), Sustain: r.Intn(1<<20 + 1),
	}
}

// TestO5Sound: a voice sings what O5 says, however it is cut into blocks.
func TestO5Sound(t *testing.T) {
	r := rand.New(rand.NewSource(5))
	for range 300 {
		p := drawn(r)
		n := 1 + r.Intn(200)
		off := r.Intn(n+40) - 20
		want := isSound(p, n, max(off, -1))
		sameAll(t, "all at once", sung(t, p, n, max(off, -1), n), want)
		sameAll(t, "one by one", sung(t, p, n, max(off, -1), 1), want)
		sameAll(t, "in pieces", sung(t, p, n, max(off, -1), 1+r.Intn(9), 0, 1+r.Intn(30)), want)
	}
}

func TestO5Blocks(t *testing.T) {
	p := api.Patch{Shape: api.ShapeSine, Step: 987654321, Gain: 0.3, Attack: 50000, Decay: 60000, Release: 70000, Sustain: 654321}
	const n = 3 * api.MaxBlock
	all := sung(t, p, n, 120000, api.MaxBlock)
	sameAll(t, "in pieces", sung(t, p, n, 120000, 1000, 1, 0, 4097), all)
	sameAll(t, "as it is said", all, isSound(p, n, 120000))
}

// TestO5Wrong: what is refused changes nothing, nor does a block of no samples.
func TestO5Wrong(t *testing.T) {
	p := api.Patch{Shape: api.ShapeTriangle, Step: 123456789, Gain: 0.7, Attack: 5, Decay: 6, Release: 7, Sustain: 99999}
	v := begin(t, p)
	var got []float64
	for i := range 20 {
		for _, n := range []int{math.MinInt, -1 << 32, -65536, -1, 65537, 1 << 32, 1<<32 + 1, math.MaxInt} {
			if l, err := v.Render(n); len(l) != 0 || err != api.ErrRange {
				t.Errorf("%d samples: %d of them, %d", n, len(l), err)
			}
		}
		if l, err := v.Render(0); len(l) != 0 || err != api.OK {
			t.Errorf("no samples: %d of them, %d", len(l), err)
		}
		if i == 13 {
			v.Off()
		}
		got = append(got, render(t, v, 1)...)
	}
	sameAll(t, "among wrong calls", got, isSound(p, 20, 13))
}

// TestO5Alone: voices do not know of one another, nor of what happens to their answers.
func TestO5Alone(t *testing.T) {
	p := api.Patch{Shape: api.ShapeSaw, Step: 1 << 27, Gain: 3, Attack: 3, Decay: 4, Release: 9, Sustain: 5555}
	q := api.Patch{Shape: api.ShapeSine, Step: 1 << 26, Gain: -5, Attack: 1, Decay: 2, Release: 30, Sustain: 777777}
	v, w, x := begin(t, p), begin(t, q), begin(t, p)
	var one, two, three []float64
	for i := range 30 {
		if i == 6 {
			w.Off()
		}
		if i == 11 {
			v.Off()
		}
		for _, s := range []struct {
			v   *voice.Voice
			out *[]float64
		}{{v, &one}, {w, &two}, {x, &three}} {
			l, _ := s.v.Render(2)
			*s.out = append(*s.out, l...)
			clear(l[:cap(l)])
		}
	}
	sameAll(t, "the first voice", one, isSound(p, 60, 22))
	sameAll(t, "the second voice", two, isSound(q, 60, 12))
	sameAll(t, "the third voice", three, isSound(p, 60, -1))
}
