package scale_test

import (
	"math"
	"slices"
	"strings"
	"testing"

	"cantus/api"
	"cantus/pitch"
	"cantus/scale"
)

func at(letter, alter, octave int) api.Pitch {
	return api.Pitch{Letter: letter, Alter: alter, Octave: octave}
}

func class(letter, alter int) api.Class { return api.Class{Letter: letter, Alter: alter} }

func rightClasses() []api.Class {
	var out []api.Class
	for letter := range 7 {
		for alter := -3; alter <= 3; alter++ {
			out = append(out, class(letter, alter))
		}
	}
	return out
}

func wrongClasses() []api.Class {
	var out []api.Class
	for _, n := range []int{math.MinInt, math.MinInt + 1, -1 << 32, 1 << 32, math.MaxInt} {
		out = append(out, class(n, 0), class(0, n), class(n, n))
	}
	return append(out, class(-1, 0), class(7, 0), class(0, 4), class(0, -4), class(7, 4))
}

func wrongModes() []int { return []int{math.MinInt, -1, 7, 8, math.MaxInt} }

type key struct {
	tonic api.Class
	mode  int
}

// allKeys tells the signs of each key that there is, found along the words of S1: fifths are counted along the letters, signs are set one by one.
func allKeys() map[key]int {
	out := map[key]int{}
	for n := -7; n <= 7; n++ {
		signs := signsOf(n)
		first := 0
		for range (n + 14) % 7 {
			first = (first + 4) % 7
		}
		for m := range 7 {
			letter := (first + m) % 7
			out[key{class(letter, signs[letter]), m}] = n
		}
	}
	return out
}

// signsOf is how each letter is altered in a key with n sharps.
func signsOf(n int) [7]int {
	var out [7]int
	for _, r := range "FCGDAEB"[:max(n, 0)] {
		out[strings.IndexRune("CDEFGAB", r)]++
	}
	for _, r := range "BEADGCF"[:max(-n, 0)] {
		out[strings.IndexRune("CDEFGAB", r)]--
	}
	return out
}

func TestSignsExamples(t *testing.T) {
	for _, x := range []struct {
		tonic api.Class
		mode  int
		want  int
		err   api.Errno
	}{
		{class(0, 0), api.Ionian, 0, api.OK}, {class(1, 0), api.Dorian, 0, api.OK}, {class(5, 0), api.Aeolian, 0, api.OK},
		{class(4, 0), api.Ionian, 1, api.OK}, {class(3, 0), api.Ionian, -1, api.OK}, {class(0, 0), api.Aeolian, -3, api.OK},
		{class(0, 1), api.Ionian, 7, api.OK}, {class(0, -1), api.Ionian, -7, api.OK}, {class(6, 1), api.Locrian, 7, api.OK},
		{class(4, 1), api.Ionian, 0, api.ErrRange}, {class(3, -1), api.Ionian, 0, api.ErrRange}, {class(3, -1), api.Lydian, -7, api.OK},
		{class(7, 9), 7, 0, api.ErrKind}, {class(7, 9), 6, 0, api.ErrForm},
	} {
		if n, err := scale.Signs(x.tonic, x.mode); n != x.want || err != x.err {
			t.Errorf("signs of %v, mode %d: %d %d, not %d %d", x.tonic, x.mode, n, err, x.want, x.err)
		}
	}
}

func TestSignsOfAll(t *testing.T) {
	keys := allKeys()
	if len(keys) != 15*7 {
		t.Fatalf("%d keys", len(keys))
	}
	for _, c := range rightClasses() {
		for m := range 7 {
			want, is := keys[key{c, m}]
			wantErr := api.OK
			if !is {
				wantErr = api.ErrRange
			}
			if n, err := scale.Signs(c, m); n != want || err != wantErr {
				t.Errorf("signs of %v, mode %d: %d %d, not %d %d", c, m, n, err, want, wantErr)
			}
		}
	}
}

// TestWrongKeys: Scale, Degree and Spell tell what Signs tells, ahead of what is wrong with the rest.
func TestWrongKeys(t *testing.T) {
	tells := func(c api.Class, mode int, want api.Errno) {
		t.Helper()
		if n, err := scale.Signs(c, mode); n != 0 || err != want {
			t.Errorf("signs of %v, mode %d: %d %d, not %d", c, mode, n, err, want)
		}
		if l, err := scale.Scale(c, mode); len(l) != 0 || err != want {
			t.Errorf("scale of %v, mode %d: %v %d, not %d", c, mode, l, err, want)
		}
		if p, err := scale.Degree(at(c.Letter, c.Alter, 13), mode, 201); p != at(0, 0, 0) || err != want {
			t.Errorf("degree of %v, mode %d: %v %d, not %d", c, mode, p, err, want)
		}
		if p, err := scale.Spell(1000, c, mode); p != at(0, 0, 0) || err != want {
			t.Errorf("spelt in %v, mode %d: %v %d, not %d", c, mode, p, err, want)
		}
	}
	for _, m := range wrongModes() {
		tells(class(0, 0), m, api.ErrKind)
		tells(class(9, 0), m, api.ErrKind)
		tells(class(0, 3), m, api.ErrKind)
	}
	for _, c := range wrongClasses() {
		for m := range 7 {
			tells(c, m, api.ErrForm)
		}
	}
	keys := allKeys()
	for _, c := range rightClasses() {
		for m := range 7 {
			if _, is := keys[key{c, m}]; !is {
				tells(c, m, api.ErrRange)
			}
		}
	}
}

func TestScale(t *testing.T) {
	for k, n := range allKeys() {
		var want []api.Class
		for i := range 7 {
			letter := (k.tonic.Letter + i) % 7
			want = append(want, class(letter, signsOf(n)[letter]))
		}
		l, err := scale.Scale(k.tonic, k.mode)
		if !slices.Equal(l, want) || err != api.OK {
			t.Errorf("scale of %v, mode %d: %v %d, not %v", k.tonic, k.mode, l, err, want)
		}
	}
}

func TestScaleIsNewMemory(t *testing.T) {
	l, _ := scale.Scale(class(0, 0), 0)
	clear(l)
	if m, _ := scale.Scale(class(0, 0), 0); m[1] != class(1, 0) {
		t.Errorf("%v", m)
	}
}

// TestDegree walks the stave up and down, step by step.
func TestDegree(t *testing.T) {
	for k, n := range allKeys() {
		signs := signsOf(n)
		for octave := -12; octave <= 12; octave++ {
			for _, way := range []int{1, -1} {
				letter, up := k.tonic.Letter, octave
				for far := 0; far <= 200; far++ {
					p, err := scale.Degree(at(k.tonic.Letter, k.tonic.Alter, octave), k.mode, way*far)
					want, wantErr := at(letter, signs[letter], up), api.OK
					if up < -12 || up > 12 {
						want, wantErr = at(0, 0, 0), api.ErrRange
					}
					if p != want || err != wantErr {
						t.Fatalf("%d steps from %v in octave %d, mode %d: %v %d, not %v %d", way*far, k.tonic, octave, k.mode, p, err, want, wantErr)
					}
					letter += way
					if letter == 7 {
						letter, up = 0, up+1
					}
					if letter == -1 {
						letter, up = 6, up-1
					}
				}
			}
		}
	}
}

func TestDegreeWrong(t *testing.T) {
	for _, octave := range []int{13, -13, math.MaxInt, math.MinInt} {
		for _, n := range []int{0, 7, -7, 201, math.MinInt} {
			if p, err := scale.Degree(at(0, 0, octave), 0, n); p != at(0, 0, 0) || err != api.ErrForm {
				t.Errorf("octave %d, %d steps: %v %d", octave, n, p, err)
			}
		}
	}
	for _, n := range []int{201, -201, math.MaxInt, math.MinInt} {
		if p, err := scale.Degree(at(0, 0, 0), 0, n); p != at(0, 0, 0) || err != api.ErrRange {
			t.Errorf("%d steps: %v %d", n, p, err)
		}
	}
}

func TestSpellExamples(t *testing.T) {
	for _, x := range []struct {
		key   int
		tonic api.Class
		mode  int
		want  api.Pitch
	}{
		{60, class(0, 0), 0, at(0, 0, 4)}, {61, class(0, 0), 0, at(0, 1, 4)}, {61, class(3, 0), 0, at(1, -1, 4)},
		{60, class(0, 1), 0, at(6, 1, 3)}, {59, class(0, -1), 0, at(0, -1, 4)}, {71, class(3, 0), 0, at(0, -1, 5)},
		{-135, class(0, -1), 0, at(0, -3, -12)}, {170, class(0, 1), 0, at(6, 3, 12)},
	} {
		if p, err := scale.Spell(x.key, x.tonic, x.mode); p != x.want || err != api.OK {
			t.Errorf("%d in %v, mode %d: %v %d, not %v", x.key, x.tonic, x.mode, p, err, x.want)
		}
	}
}

// bestOf is, of all right pitches with a key, that with the least ado.
func bestOf(all []api.Pitch, tonic api.Class, signs int) (api.Pitch, api.Errno) {
	order := []int{0, 1, -1, 2, -2}
	if signs < 0 {
		order = []int{0, -1, 1, -2, 2}
	}
	best, least := at(0, 0, 0), 1000
	for _, p := range all {
		rank := slices.Index(order, p.Alter-signsOf(signs)[p.Letter])
		if rank < 0 {
			continue
		}
		if ado := 7*rank + (p.Letter-tonic.Letter+7)%7; ado < least {
			best, least = p, ado
		}
	}
	if least == 1000 {
		return at(0, 0, 0), api.ErrRange
	}
	return best, api.OK
}

func TestSpellAll(t *testing.T) {
	byKey := map[int][]api.Pitch{}
	for octave := -12; octave <= 12; octave++ {
		for _, c := range rightClasses() {
			p := at(c.Letter, c.Alter, octave)
			n, _ := pitch.Key(p)
			byKey[n] = append(byKey[n], p)
		}
	}
	for k, signs := range allKeys() {
		for n := -150; n <= 190; n++ {
			want, wantErr := bestOf(byKey[n], k.tonic, signs)
			if p, err := scale.Spell(n, k.tonic, k.mode); p != want || err != wantErr {
				t.Fatalf("%d in %v, mode %d: %v %d, not %v %d", n, k.tonic, k.mode, p, err, want, wantErr)
			}
		}
		for i := range 40 {
			for _, n := range []int{math.MinInt + i, math.MaxInt - i, 1<<32 + i, -1<<32 - i} {
				if p, err := scale.Spell(n, k.tonic, k.mode); p != at(0, 0, 0) || err != api.ErrRange {
					t.Fatalf("%d in %v, mode %d: %v %d", n, k.tonic, k.mode, p, err)
				}
			}
		}
	}
}
