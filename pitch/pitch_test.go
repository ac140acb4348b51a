package pitch_test

import (
	"math"
	"testing"

	"cantus/api"
	"cantus/pitch"
)

func at(letter, alter, octave int) api.Pitch {
	return api.Pitch{Letter: letter, Alter: alter, Octave: octave}
}

func iv(steps, halves int) api.Interval { return api.Interval{Steps: steps, Halves: halves} }

// rightPitches are all of them, found without the package.
func rightPitches() []api.Pitch {
	var out []api.Pitch
	for octave := -12; octave <= 12; octave++ {
		for letter := 0; letter < 7; letter++ {
			for alter := -3; alter <= 3; alter++ {
				out = append(out, at(letter, alter, octave))
			}
		}
	}
	return out
}

func wrongPitches() []api.Pitch {
	var out []api.Pitch
	for _, n := range []int{math.MinInt, math.MinInt + 1, -1 << 32, math.MaxInt, 1 << 32, 1000, -1000} {
		out = append(out, at(n, 0, 0), at(0, n, 0), at(0, 0, n), at(n, n, n))
	}
	return append(out, at(-1, 0, 4), at(7, 0, 4), at(0, 4, 4), at(0, -4, 4), at(0, 0, 13), at(0, 0, -13), at(6, 3, 13), at(7, 4, 13))
}

// wrongIntervals lie just beyond the bounds, and where sums wrap round.
func wrongIntervals() []api.Interval {
	var out []api.Interval
	for _, n := range []int{math.MinInt, math.MinInt + 1, -1 << 40, 1 << 40, math.MaxInt - 1, math.MaxInt} {
		out = append(out, iv(n, 0), iv(0, n), iv(n, n), iv(-n, n))
	}
	return append(out, iv(201, 0), iv(-201, 0), iv(0, 4097), iv(0, -4097), iv(201, 4097))
}

// halfTones counts up to a pitch along the keys, one letter behind the other.
func halfTones(p api.Pitch) int {
	n := 12 * p.Octave
	for _, width := range []int{2, 2, 1, 2, 2, 2}[:p.Letter] {
		n += width
	}
	return n + p.Alter
}

func isBetween(p, q api.Pitch) api.Interval {
	return iv(7*q.Octave+q.Letter-7*p.Octave-p.Letter, halfTones(q)-halfTones(p))
}

func TestRight(t *testing.T) {
	for _, p := range rightPitches() {
		if !pitch.Right(p) {
			t.Errorf("%v is right", p)
		}
	}
	for _, p := range wrongPitches() {
		if pitch.Right(p) {
			t.Errorf("%v is not right", p)
		}
	}
}

func TestKey(t *testing.T) {
	for p, want := range map[api.Pitch]int{
		at(0, 0, 4): 60, at(5, 0, 4): 69, at(6, 1, 3): 60, at(0, -1, 4): 59, at(1, 0, 4): 62, at(2, 0, 4): 64, at(3, 0, 4): 65, at(4, 0, 4): 67, at(6, 0, 4): 71,
		at(0, 0, -1): 0, at(0, 0, 0): 12, at(0, -3, -12): -135, at(6, 3, 12): 170,
	} {
		if k, err := pitch.Key(p); k != want || err != api.OK {
			t.Errorf("key of %v: %d %d, not %d", p, k, err, want)
		}
	}
	for _, p := range rightPitches() {
		if k, err := pitch.Key(p); k != halfTones(p)+12 || err != api.OK {
			t.Errorf("key of %v: %d %d", p, k, err)
		}
	}
	for _, p := range wrongPitches() {
		if k, err := pitch.Key(p); k != 0 || err != api.ErrForm {
			t.Errorf("key of %v: %d %d", p, k, err)
		}
	}
}

func TestBetweenExamples(t *testing.T) {
	for _, x := range []struct {
		p, q api.Pitch
		want api.Interval
	}{
		{at(0, 0, 4), at(3, 1, 4), iv(3, 6)}, {at(0, 0, 4), at(4, -1, 4), iv(4, 6)}, {at(4, 0, 4), at(2, 0, 4), iv(-2, -3)},
		{at(6, 0, 3), at(0, 0, 4), iv(1, 1)}, {at(0, -3, -12), at(6, 3, 12), iv(174, 305)}, {at(6, 1, 3), at(0, -1, 4), iv(1, -1)},
	} {
		if i, err := pitch.Between(x.p, x.q); i != x.want || err != api.OK {
			t.Errorf("from %v to %v: %v %d, not %v", x.p, x.q, i, err, x.want)
		}
	}
}

// TestThereAndBack holds Between, Move and Mirror together for all pairs of right pitches.
func TestThereAndBack(t *testing.T) {
	all := rightPitches()
	byPlace := map[api.Interval]api.Pitch{}
	for _, p := range all {
		byPlace[isBetween(at(0, 0, 0), p)] = p
	}
	for _, p := range all {
		for _, q := range all {
			i, err := pitch.Between(p, q)
			if want := isBetween(p, q); i != want || err != api.OK {
				t.Fatalf("from %v to %v: %v %d, not %v", p, q, i, err, want)
			}
			if r, err := pitch.Move(p, i); r != q || err != api.OK {
				t.Fatalf("%v moved by %v: %v %d, not %v", p, i, r, err, q)
			}
			from := isBetween(at(0, 0, 0), q)
			want, ok := byPlace[iv(from.Steps+i.Steps, from.Halves+i.Halves)]
			wantErr := api.OK
			if !ok {
				want, wantErr = api.Pitch{}, api.ErrRange
			}
			if m, err := pitch.Mirror(p, q); m != want || err != wantErr {
				t.Fatalf("%v mirrored on %v: %v %d, not %v %d", p, q, m, err, want, wantErr)
			}
		}
	}
}

func TestMoveFindsAllOrNone(t *testing.T) {
	all := rightPitches()
	for _, p := range []api.Pitch{at(0, 0, 4), at(6, -3, -12), at(3, 3, 12), at(2, 1, -1)} {
		to := map[api.Interval]api.Pitch{}
		for _, q := range all {
			to[isBetween(p, q)] = q
		}
		for steps := -200; steps <= 200; steps++ {
			for halves := -400; halves <= 400; halves++ {
				want, ok := to[iv(steps, halves)]
				wantErr := api.OK
				if !ok {
					wantErr = api.ErrRange
				}
				if q, err := pitch.Move(p, iv(steps, halves)); q != want || err != wantErr {
					t.Fatalf("%v moved by %d %d: %v %d, not %v %d", p, steps, halves, q, err, want, wantErr)
				}
			}
		}
	}
}

func TestMoveExamples(t *testing.T) {
	for _, x := range []struct {
		p    api.Pitch
		i    api.Interval
		want api.Pitch
		err  api.Errno
	}{
		{at(2, 0, 4), iv(2, 3), at(4, 0, 4), api.OK},
		{at(0, 0, 0), iv(-1, -1), at(6, 0, -1), api.OK},
		{at(0, 0, 0), iv(-7, -12), at(0, 0, -1), api.OK},
		{at(0, 0, 0), iv(-8, -13), at(6, 0, -2), api.OK},
		{at(0, 0, 4), iv(0, 3), at(0, 3, 4), api.OK},
		{at(0, 0, 4), iv(0, 4), api.Pitch{}, api.ErrRange},
		{at(0, 0, 4), iv(0, -4), api.Pitch{}, api.ErrRange},
		{at(0, 0, 12), iv(7, 12), api.Pitch{}, api.ErrRange},
		{at(0, 0, -12), iv(-1, -1), api.Pitch{}, api.ErrRange},
		{at(7, 0, 4), iv(201, 0), api.Pitch{}, api.ErrForm},
	} {
		if q, err := pitch.Move(x.p, x.i); q != x.want || err != x.err {
			t.Errorf("%v moved by %v: %v %d, not %v %d", x.p, x.i, q, err, x.want, x.err)
		}
	}
	if q, err := pitch.Mirror(at(0, 0, 4), at(2, 0, 4)); q != at(4, 1, 4) || err != api.OK {
		t.Errorf("C4 mirrored on E4: %v %d", q, err)
	}
}

func TestWrongPitchesAndIntervals(t *testing.T) {
	c := at(0, 0, 4)
	for _, p := range wrongPitches() {
		for _, pair := range [][2]api.Pitch{{p, c}, {c, p}, {p, p}} {
			if i, err := pitch.Between(pair[0], pair[1]); i != iv(0, 0) || err != api.ErrForm {
				t.Errorf("between %v: %v %d", pair, i, err)
			}
			if m, err := pitch.Mirror(pair[0], pair[1]); m != (api.Pitch{}) || err != api.ErrForm {
				t.Errorf("mirror of %v: %v %d", pair, m, err)
			}
		}
		for _, i := range append(wrongIntervals(), iv(0, 0)) {
			if q, err := pitch.Move(p, i); q != (api.Pitch{}) || err != api.ErrForm {
				t.Errorf("%v moved by %v: %v %d", p, i, q, err)
			}
		}
	}
	for _, i := range wrongIntervals() {
		if q, err := pitch.Move(c, i); q != (api.Pitch{}) || err != api.ErrRange {
			t.Errorf("moved by %v: %v %d", i, q, err)
		}
	}
}

func TestSum(t *testing.T) {
	for _, x := range []struct {
		i, j, want api.Interval
		err        api.Errno
	}{
		{iv(2, 4), iv(2, 3), iv(4, 7), api.OK},
		{iv(2, 4), iv(-2, -4), iv(0, 0), api.OK},
		{iv(100, 2048), iv(100, 2048), iv(200, 4096), api.OK},
		{iv(-100, -2048), iv(-100, -2048), iv(-200, -4096), api.OK},
		{iv(200, 4096), iv(-200, -4096), iv(0, 0), api.OK},
		{iv(100, 0), iv(101, 0), iv(0, 0), api.ErrRange},
		{iv(-100, 0), iv(-101, 0), iv(0, 0), api.ErrRange},
		{iv(0, 2048), iv(0, 2049), iv(0, 0), api.ErrRange},
		{iv(0, -2048), iv(0, -2049), iv(0, 0), api.ErrRange},
		{iv(201, 0), iv(-1, 0), iv(0, 0), api.ErrRange},
		{iv(0, 1), iv(0, -4097), iv(0, 0), api.ErrRange},
	} {
		if s, err := pitch.Sum(x.i, x.j); s != x.want || err != x.err {
			t.Errorf("%v and %v: %v %d, not %v %d", x.i, x.j, s, err, x.want, x.err)
		}
	}
	for _, i := range wrongIntervals() {
		for _, j := range append(wrongIntervals(), iv(0, 0), iv(-1, -1), iv(1, 1)) {
			for _, pair := range [][2]api.Interval{{i, j}, {j, i}} {
				if s, err := pitch.Sum(pair[0], pair[1]); s != iv(0, 0) || err != api.ErrRange {
					t.Errorf("%v: %v %d", pair, s, err)
				}
			}
		}
	}
}
