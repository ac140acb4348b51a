package player_test

import (
	"math/big"
	"slices"
	"testing"

	"cantus/api"
	"cantus/clock"
	"cantus/codec"
	"cantus/mix"
	"cantus/player"
	"cantus/score"
	"cantus/tune"
	"cantus/voice"
)

// level is O4, of a voice that is held for so many samples and then let go, t samples behind its beginning.
func level(p api.Patch, held, t int) int {
	if t >= held {
		u := t - held
		if u >= p.Release {
			return 0
		}
		return level(p, held+1, held) * (p.Release - u) / p.Release
	}
	u := t - p.Attack
	switch {
	case u < 0:
		return api.One * t / p.Attack
	case u < p.Decay:
		return api.One - (api.One-p.Sustain)*u/p.Decay
	}
	return p.Sustain
}

// heard is sample t of such a voice, as O5 and B1 say it: of each sample by itself, without those ahead of it.
func heard(p api.Patch, held, t int) int {
	x, _ := voice.Shape(p.Shape, uint32(t)*p.Step)
	return mix.Round(float64(p.Gain*x) * (float64(level(p, held, t)) / api.One))
}

// ticks is how many ticks times are together, by a fraction without bounds.
func ticks(times ...api.Frac) *big.Rat {
	sum := new(big.Rat)
	for _, f := range times {
		sum.Add(sum, big.NewRat(int64(f.Up), int64(f.Down)))
	}
	return sum.Mul(sum, big.NewRat(api.Ticks, 1))
}

// placed is the sample on which that falls.
func placed(t *testing.T, s api.Setting, times ...api.Frac) int {
	t.Helper()
	exact := ticks(times...)
	at := new(big.Int).Div(exact.Num(), exact.Denom())
	place, err := clock.Place(s.Marks, int(at.Int64()), s.Pace)
	if err != api.OK {
		t.Fatalf("tick %d: %d", at, err)
	}
	return place
}

// tracksOf is B1 of a piece in which all can be told.
func tracksOf(t *testing.T, s api.Setting, text string) [][]int {
	t.Helper()
	piece, fault := score.Read(text)
	notes, err := score.Notes(piece)
	if fault.Err != api.OK || err != api.OK {
		t.Fatalf("%s: %v %d", text, fault, err)
	}
	tracks := make([][]int, len(piece))
	for _, n := range notes {
		from, to := placed(t, s, n.Start), placed(t, s, n.Start, n.Long)
		hertz, _ := tune.Hertz(n.Pitch, s.A)
		p := s.Patch
		p.Step, err = voice.Step(hertz, s.Rate)
		if err != api.OK {
			t.Fatalf("%s: %v has no step: %d", text, n.Pitch, err)
		}
		for at := from; at < to+p.Release; at++ {
			for len(tracks[n.Voice]) <= at {
				tracks[n.Voice] = append(tracks[n.Voice], 0)
			}
			tracks[n.Voice][at] += heard(p, to-from, at-from)
		}
		for len(tracks[n.Voice]) < to+p.Release {
			tracks[n.Voice] = append(tracks[n.Voice], 0)
		}
	}
	return tracks
}

// soundOf is what comes out of such a piece.
func soundOf(t *testing.T, s api.Setting, text string) []int {
	t.Helper()
	sums, err := mix.Sum(tracksOf(t, s, text), s.Gains)
	if err != api.OK {
		t.Fatalf("%s: no sums: %d", text, err)
	}
	out, err := mix.NewDither(s.Seed).Run(sums)
	if err != api.OK {
		t.Fatalf("%s: no samples: %d", text, err)
	}
	return out
}

// sounds: the piece is played, and these are its samples.
func sounds(t *testing.T, name string, s api.Setting, text string, block, workers int, want []int) {
	t.Helper()
	b, fault := player.Play(s, text, block, workers)
	if (fault != api.Fault{}) {
		t.Fatalf("%s: %v", name, fault)
	}
	if told, err := codec.Encode(want); err != api.OK || b != told {
		got, err := codec.Decode(b)
		if len(got)+len(want) > 100 {
			t.Fatalf("%s, block %d, workers %d: %d samples %d of %d, and they are wrong", name, block, workers, len(got), err, len(want))
		}
		t.Fatalf("%s, block %d, workers %d: %v %d, not %v", name, block, workers, got, err, want)
	}
}

// faults: the piece cannot be played.
func faults(t *testing.T, name string, s api.Setting, text string, block, workers int, want api.Fault) {
	t.Helper()
	if b, fault := player.Play(s, text, block, workers); fault != want || b != "" {
		t.Errorf("%s: %d bytes, %v, not %v", name, len(b), fault, want)
	}
}

// line is that number so many times.
func line(n, x int) []int { return slices.Repeat([]int{x}, n) }

func joined(l ...[]int) []int { return slices.Concat(l...) }
