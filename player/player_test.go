package player_test

import (
	"math"
	"slices"
	"testing"

	"cantus/api"
	"cantus/player"
)

const half = 16384 // half as loud as can be

// plain: a tick is a sample; A4 goes round in four; a note is half as loud as can be from its first sample to its last one; the gain leaves it as it is.
func plain() api.Setting {
	return api.Setting{
		A: 440, Rate: 1760, Pace: api.Frac{Up: 1, Down: 2}, Marks: []api.Mark{{Pace: 1}},
		Patch: api.Patch{Shape: api.ShapeSquare, Gain: 0.5, Sustain: api.One},
		Gains: []int{api.One / 16},
	}
}

// slow is plain, but so slow that A4 stays up for half as many samples as there may be.
func slow() api.Setting {
	s := plain()
	s.A, s.Rate = 1, api.MaxSampleRate
	return s
}

func with(s api.Setting, change func(s *api.Setting)) api.Setting {
	change(&s)
	return s
}

func TestB1Note(t *testing.T) {
	up, low, one := line(2, half), line(2, -half), line(1, -half)
	for _, x := range []struct {
		name, text string
		want       []int
	}{
		{"no voices", "", nil},
		{"a voice without bars", "voice a", nil},
		{"silence", "voice a | 4/4 - -", nil},
		{"a tie to nothing", "voice a | 4/4 ~", nil},
		{"a note", "voice a | 6/3840 A4", joined(up, low, up)},
		{"an octave higher", "voice a | 4/3840 A5", []int{half, -half, half, -half}},
		{"an octave lower", "voice a | 9/3840 A3", joined(up, up, low, low, line(1, half))},
		{"written in another way", "voice a | 6/3840 G♯♯4", joined(up, low, up)},
		{"moved", "voice a | 6/3840 up P8 [A3]", joined(up, low, up)},
		{"with what is sung", "voice a | 6/3840 A4 \"la\"", joined(up, low, up)},
		{"each begins anew", "voice a | 6/3840 A4 A4", joined(up, one, up, one)},
		{"in two bars", "voice a | 3/3840 A4 | 3/3840 A4", joined(up, one, up, one)},
		{"it goes on", "voice a | 3/3840 A4 | 3/3840 ~", joined(up, low, up)},
		{"silence ahead", "voice a | 6/3840 - A4", joined(line(3, 0), up, one)},
		{"silence between", "voice a | 9/3840 A4 - A4", joined(up, one, line(3, 0), up, one)},
		{"silence behind", "voice a | 6/3840 A4 -", joined(up, one)},
		{"two together", "voice a | 4/3840 <A4 A5>", []int{32767, 0, 0, -32768}},
	} {
		s := plain()
		if x.text == "" {
			s.Gains = nil
		}
		sounds(t, x.name, s, x.text, 64, 2, x.want)
	}
}

// TestB1Step: how far a note goes in a sample is told by A and Rate, and by nothing else.
func TestB1Step(t *testing.T) {
	text := "voice a | 4/3840 A4"
	four, two, one := []int{half, half, half, half}, []int{half, half, -half, -half}, []int{half, -half, half, -half}
	for _, x := range []struct {
		name   string
		change func(s *api.Setting)
		want   []int
	}{
		{"as it is", func(s *api.Setting) {}, two},
		{"A twice as high", func(s *api.Setting) { s.A *= 2 }, one},
		{"A half as high", func(s *api.Setting) { s.A /= 2 }, four},
		{"twice as many samples a second", func(s *api.Setting) { s.Rate *= 2 }, four},
		{"half as many", func(s *api.Setting) { s.Rate /= 2 }, one},
		{"a step of the patch's own", func(s *api.Setting) { s.Patch.Step = 1 << 31 }, two},
		{"the least A", func(s *api.Setting) { s.A, s.Rate = api.LeastHertz, 4 }, two},
		{"the greatest A", func(s *api.Setting) { s.A, s.Rate = api.MostHertz, 400000 }, two},
		{"the greatest rate", func(s *api.Setting) { s.A, s.Rate = 1<<16, api.MaxSampleRate }, four},
	} {
		sounds(t, x.name, with(plain(), x.change), text, 64, 2, x.want)
	}
	sounds(t, "the least rate", with(plain(), func(s *api.Setting) { s.A, s.Rate = 1, 1 }), "voice a | 4/3840 A3", 64, 2, one)
	sounds(t, "hardly any step", with(plain(), func(s *api.Setting) { s.A, s.Rate = 1, api.MaxSampleRate }), "voice a | 4/3840 C-12", 64, 2, four)
}

// TestB1Sample: a time is rounded down to a tick, and marks and pace say where that is.
func TestB1Sample(t *testing.T) {
	same := func(s *api.Setting) {}
	for _, x := range []struct {
		name   string
		change func(s *api.Setting)
		text   string
		want   []int
	}{
		{"the second third of four", same, "voice a | 4/3840 - A4 -", joined(line(1, 0), line(1, half))},
		{"the last third of four", same, "voice a | 4/3840 - - A4", joined(line(2, 0), line(2, half))},
		{"within a tick", same, "voice a | 1/3840 -*3 A4 -", nil},
		{"up to its end", same, "voice a | 1/3840 -*3 A4 A4", line(1, half)},
		{"rounded ahead of the pace", func(s *api.Setting) { s.Marks = []api.Mark{{Pace: 3}} }, "voice a | 3/3840 - A4", joined(line(3, 0), line(6, half))},
		{"and behind it", func(s *api.Setting) { s.Pace = api.Frac{Up: 2, Down: 3} }, "voice a | 4/3840 -*2 A4 -", joined(line(2, 0), line(2, half))},
		{"faster", func(s *api.Setting) { s.Pace = api.Frac{Up: 7, Down: 1} }, "voice a | 2/3840 - A4", joined(line(14, 0), line(14, half))},
		{"a pace that changes", func(s *api.Setting) { s.Marks = []api.Mark{{Pace: 1}, {At: 2, Pace: 4}} }, "voice a | 6/3840 - A4 -", joined(line(2, 0), line(8, half))},
		{"a ramp", func(s *api.Setting) { s.Marks = []api.Mark{{Pace: 1, Ramp: true}, {At: 4, Pace: 9}} }, "voice a | 4/3840 - A4*2 -", joined(line(2, 0), line(10, half))},
		{"the last tick of all", func(s *api.Setting) { s.Pace = api.Frac{Up: 1, Down: 4096} }, "voice a | 4095/15 - | 1/15 A4", joined(line(511, 0), line(1, half))},
		{"the rate says nothing of it", func(s *api.Setting) { s.Rate /= 2 }, "voice a | 6/3840 - A4", joined(line(3, 0), line(3, half))},
	} {
		sounds(t, x.name, with(slow(), x.change), x.text, 64, 2, x.want)
	}
}

// TestB1Held: a note is let go where it ends, and heard for Release more.
func TestB1Held(t *testing.T) {
	for _, x := range []struct {
		name                   string
		attack, decay, release int
		sustain                int
		text                   string
		want                   []int
	}{
		{"it fades", 0, 0, 4, api.One, "voice a | 2/3840 A4", []int{16384, 16384, 16384, 12288, 8192, 4096}},
		{"it fades during silence", 0, 0, 3, api.One, "voice a | 8/3840 A4 -*7", []int{16384, 16384, 10923, 5461}},
		{"it comes up", 4, 0, 0, api.One, "voice a | 6/3840 A4", []int{0, 4096, 8192, 12288, 16384, 16384}},
		{"it settles", 0, 4, 0, api.One / 2, "voice a | 6/3840 A4", []int{16384, 14336, 12288, 10240, 8192, 8192}},
		{"let go while it comes up", 4, 0, 2, api.One, "voice a | 2/3840 A4", []int{0, 4096, 8192, 4096}},
		{"let go while it settles", 0, 4, 2, api.One / 2, "voice a | 2/3840 A4", []int{16384, 14336, 12288, 6144}},
		{"the next one begins while it fades", 0, 0, 2, api.One, "voice a | 2/3840 A4 A4", []int{16384, 32767, 24576, 8192}},
		{"each note of a chord by itself", 0, 0, 2, api.One, "voice a | 1/3840 <A4 A4>", []int{32767, 32767, 16384}},
		{"held for no sample", 0, 0, 2, api.One, "voice a | 1/3840 A4 -", []int{16384, 8192}},
		{"held for no sample, and not yet up", 1, 0, 2, api.One, "voice a | 1/3840 A4 -", []int{0, 0}},
		{"silent, but as long", 0, 0, 3, 0, "voice a | 2/3840 A4", line(5, 0)},
		{"it goes on ahead of that", 0, 0, 2, api.One, "voice a | 1/3840 A4 | 1/3840 ~", []int{16384, 16384, 16384, 8192}},
	} {
		s := slow()
		s.Patch.Attack, s.Patch.Decay, s.Patch.Release, s.Patch.Sustain = x.attack, x.decay, x.release, x.sustain
		for _, block := range []int{1, 2, 3, 64} {
			sounds(t, x.name, s, x.text, block, 1, x.want)
		}
	}
}

// TestB1Rounded: each sample of each note is rounded, within its bounds, ahead of all sums.
func TestB1Rounded(t *testing.T) {
	for _, x := range []struct {
		name string
		gain float64
		loud int
		want int
	}{
		{"up", 0.75 / 32768, 1 << 16, 3},
		{"down", 0.4375 / 32768, 1 << 16, 0},
		{"to an even one", 0.5 / 32768, 1 << 16, 0},
		{"to an even one, up", 1.5 / 32768, 1 << 16, 6},
		{"of negative ones", -0.75 / 32768, 1 << 16, -3},
		{"the least of all", -4, 1 << 14, -24576},
		{"the greatest of all", 4, 1 << 16, 32767},
	} {
		s := with(slow(), func(s *api.Setting) { s.Patch.Gain, s.Gains = x.gain, []int{x.loud} })
		sounds(t, x.name, s, "voice a | 5/3840 <A4 A4 A4>", 64, 2, line(5, x.want))
	}
}

// TestB1Tracks: each voice has a track, and a gain of its own.
func TestB1Tracks(t *testing.T) {
	text := "voice a | 4/3840 A4 - voice b | 1/3840 - | 2/3840 <A4 A4> voice c voice d | 6/3840 -*5 A4"
	for _, x := range []struct {
		name  string
		gains []int
		want  []int
	}{
		{"as they are", []int{1 << 16, 1 << 16, 1 << 16, 1 << 16}, []int{half, 32767, 32767, 0, 0, half}},
		{"one alone", []int{1 << 16, 0, 0, 0}, []int{half, half, 0, 0, 0, 0}},
		{"each in its way", []int{1 << 14, 1 << 13, 1 << 20, -1 << 15}, []int{half / 4, half / 2, half / 4, 0, 0, -half / 2}},
		{"one less the other one", []int{1 << 16, -1 << 15, 0, 1 << 16}, []int{half, 0, -half, 0, 0, half}},
	} {
		for workers := 1; workers <= api.MaxWorkers; workers++ {
			sounds(t, x.name, with(slow(), func(s *api.Setting) { s.Gains = x.gains }), text, 64, workers, x.want)
		}
	}
}

// TestB2Seed: the dither begins with it.
func TestB2Seed(t *testing.T) {
	seen := map[string]int{}
	for _, seed := range []uint32{0, 1, 3, 1 << 31, math.MaxUint32} {
		s := with(plain(), func(s *api.Setting) { s.Seed, s.Gains = seed, []int{1 << 10} })
		s.Patch.Shape, s.Patch.Release = api.ShapeSine, 100
		text := "voice a | 1/8 A4 C♯4"
		sounds(t, "a seed", s, text, 64, 2, soundOf(t, s, text))
		b, _ := player.Play(s, text, 64, 2)
		seen[b]++
	}
	if len(seen) != 5 {
		t.Errorf("five seeds sound in %d ways", len(seen))
	}
}

// TestB2Bytes: what comes out is in bytes as chapter 18 has them.
func TestB2Bytes(t *testing.T) {
	for text, want := range map[string]string{
		"voice a":             "\x00\x00\x00",
		"voice a | 1/3840 A4": "\x00\x00\x01\x43\x00\x00", // order 1, key 0, and 32768 more than 16384
	} {
		if b, fault := player.Play(plain(), text, 64, 2); b != want || (fault != api.Fault{}) {
			t.Errorf("%s: %x %v, not %x", text, b, fault, want)
		}
	}
}

// TestE2Kept: what is handed in stays as it is, with what lies behind it.
func TestE2Kept(t *testing.T) {
	marks := []api.Mark{{Pace: 1, Ramp: true}, {At: 9, Pace: 3}, {At: -7, Pace: -7}}
	gains := []int{1 << 16, 1 << 15, -7}
	wasMarks, wasGains := slices.Clone(marks), slices.Clone(gains)
	s := with(plain(), func(s *api.Setting) { s.Marks, s.Gains = marks[:2], gains[:2] })
	text := "voice a | 1/16 A4 [C4 E4] voice b | 1/16 <G4 B4> ~"
	want := soundOf(t, s, text)
	for range 3 {
		sounds(t, "again", s, text, 7, 3, want)
	}
	if !slices.Equal(marks, wasMarks) || !slices.Equal(gains, wasGains) {
		t.Errorf("%v %v, and they were %v %v", marks, gains, wasMarks, wasGains)
	}
}
