package scale_test

import (
	"math"
	"slices"
	"strings"
	"testing"

	"cantus/api"
	"cantus/pitch"
	"cantus/scale"
)

// chordNames: the intervals of each kind, as S4 writes them.
var chordNames = map[int]string{
	api.Major: "M3 P5", api.Minor: "m3 P5", api.Diminished: "m3 d5", api.Augmented: "M3 A5", api.Dominant: "M3 P5 m7",
	api.MajorSeven: "M3 P5 M7", api.MinorSeven: "m3 P5 m7", api.HalfDim: "m3 d5 m7", api.FullDim: "m3 d5 d7",
}

func isNotes(root api.Pitch, kind int) ([]api.Pitch, api.Errno) {
	out := []api.Pitch{root}
	for _, name := range strings.Fields(chordNames[kind]) {
		i, err := pitch.Named(name)
		if err != api.OK {
			return nil, err
		}
		p, err := pitch.Move(root, i)
		if err != api.OK {
			return nil, err
		}
		out = append(out, p)
	}
	return out, api.OK
}

func TestNotes(t *testing.T) {
	failed := 0
	for octave := -12; octave <= 12; octave++ {
		for _, c := range rightClasses() {
			for kind := 1; kind <= 9; kind++ {
				root := at(c.Letter, c.Alter, octave)
				want, wantErr := isNotes(root, kind)
				l, err := scale.Notes(root, kind)
				if !slices.Equal(l, want) || err != wantErr {
					t.Fatalf("chord %d on %v: %v %d, not %v %d", kind, root, l, err, want, wantErr)
				}
				if err != api.OK {
					failed++
				}
			}
		}
	}
	if failed == 0 {
		t.Error("no chord went too far")
	}
}

func TestNotesExamples(t *testing.T) {
	for _, x := range []struct {
		root api.Pitch
		kind int
		want []api.Pitch
	}{
		{at(0, 0, 4), api.Major, []api.Pitch{at(0, 0, 4), at(2, 0, 4), at(4, 0, 4)}},
		{at(6, -1, 3), api.Dominant, []api.Pitch{at(6, -1, 3), at(1, 0, 4), at(3, 0, 4), at(5, -1, 4)}},
		{at(6, 0, 3), api.FullDim, []api.Pitch{at(6, 0, 3), at(1, 0, 4), at(3, 0, 4), at(5, -1, 4)}},
		{at(0, 0, 4), api.Augmented, []api.Pitch{at(0, 0, 4), at(2, 0, 4), at(4, 1, 4)}},
	} {
		if l, err := scale.Notes(x.root, x.kind); !slices.Equal(l, x.want) || err != api.OK {
			t.Errorf("chord %d on %v: %v %d, not %v", x.kind, x.root, l, err, x.want)
		}
	}
}

func TestNotesWrong(t *testing.T) {
	for _, kind := range []int{math.MinInt, -1, 0, 10, math.MaxInt} {
		for _, root := range []api.Pitch{at(0, 0, 4), at(7, 0, 4), at(6, 3, 12)} {
			if l, err := scale.Notes(root, kind); len(l) != 0 || err != api.ErrKind {
				t.Errorf("chord %d on %v: %v %d", kind, root, l, err)
			}
		}
	}
	for _, root := range []api.Pitch{at(-1, 0, 4), at(7, 0, 4), at(0, 4, 4), at(0, -4, 4), at(0, 0, 13), at(0, 0, -13), at(math.MaxInt, 0, 0)} {
		for kind := 1; kind <= 9; kind++ {
			if l, err := scale.Notes(root, kind); len(l) != 0 || err != api.ErrForm {
				t.Errorf("chord %d on %v: %v %d", kind, root, l, err)
			}
		}
	}
	if l, err := scale.Notes(at(6, 0, 12), api.Major); len(l) != 0 || err != api.ErrRange {
		t.Errorf("a chord above all octaves: %v %d", l, err)
	}
	if l, err := scale.Notes(at(0, 3, 4), api.Augmented); len(l) != 0 || err != api.ErrRange {
		t.Errorf("a fifth with four sharps: %v %d", l, err)
	}
}

func TestWhatExamples(t *testing.T) {
	for _, x := range []struct {
		l    []api.Pitch
		want api.Chord
	}{
		{[]api.Pitch{at(1, 0, 3), at(6, -1, 3), at(3, 0, 4), at(5, -1, 5)}, api.Chord{Root: class(6, -1), Kind: api.Dominant, Turn: 1}},
		{[]api.Pitch{at(6, -1, 3), at(1, 0, 4), at(3, 0, 4), at(5, -1, 2)}, api.Chord{Root: class(6, -1), Kind: api.Dominant, Turn: 3}},
		{[]api.Pitch{at(4, 0, 5), at(2, 0, 4), at(0, 0, 4), at(0, 0, 12)}, api.Chord{Root: class(0, 0), Kind: api.Major}},
		{[]api.Pitch{at(4, 0, -12), at(2, 0, 12), at(0, 0, 12)}, api.Chord{Root: class(0, 0), Kind: api.Major, Turn: 2}},
		{[]api.Pitch{at(0, 0, 4), at(5, -1, 3), at(2, 0, 3)}, api.Chord{Root: class(5, -1), Kind: api.Augmented, Turn: 2}},
		{[]api.Pitch{at(0, -3, 4), at(6, -3, 3), at(2, -3, 4), at(4, -3, 4)}, api.Chord{Root: class(0, -3), Kind: api.MajorSeven, Turn: 3}},
		// The same keys in other letters are no chord, or another one.
		{[]api.Pitch{at(0, 0, 4), at(3, -1, 4), at(4, 0, 4)}, api.Chord{}},
		{[]api.Pitch{at(0, 0, 4), at(2, 0, 4), at(5, -1, 4)}, api.Chord{Root: class(5, -1), Kind: api.Augmented, Turn: 1}},
		{[]api.Pitch{at(0, 0, 4), at(2, 0, 4), at(4, 1, 4)}, api.Chord{Root: class(0, 0), Kind: api.Augmented}},
	} {
		wantErr := api.OK
		if x.want.Kind == 0 {
			wantErr = api.ErrNone
		}
		if c, err := scale.What(x.l); c != x.want || err != wantErr {
			t.Errorf("%v: %v %d, not %v", x.l, c, err, x.want)
		}
	}
}

// classSets tells the chord of each set of classes that is one; the classes stand in order.
func classSets(t *testing.T) map[[4]int]api.Chord {
	out := map[[4]int]api.Chord{}
	for _, root := range rightClasses() {
		for kind := 1; kind <= 9; kind++ {
			l, err := isNotes(at(root.Letter, root.Alter, 0), kind)
			if err != api.OK {
				continue
			}
			set := setOf(l)
			if was, is := out[set]; is {
				t.Fatalf("%v is a chord twice: %v", set, was)
			}
			out[set] = api.Chord{Root: root, Kind: kind}
		}
	}
	return out
}

// setOf numbers up to four classes, in order; -1 stands ahead, where there are fewer.
func setOf(l []api.Pitch) [4]int {
	set := [4]int{-1, -1, -1, -1}
	for i, p := range l {
		set[i] = 7*p.Letter + p.Alter + 3
	}
	slices.Sort(set[:])
	return set
}

// TestWhatAllSets asks for all sets of up to four classes, the octaves spread in several ways.
func TestWhatAllSets(t *testing.T) {
	chords := classSets(t)
	all := rightClasses()
	found := 0
	ask := func(numbers ...int) {
		var l []api.Pitch
		for i, n := range numbers {
			l = append(l, at(all[n].Letter, all[n].Alter, (i*numbers[0]+n)%5-2))
		}
		want, is := chords[setOf(l)]
		wantErr := api.ErrNone
		if is {
			want.Turn, wantErr = turnOf(l, want), api.OK
			found++
		}
		if c, err := scale.What(l); c != want || err != wantErr {
			t.Fatalf("%v: %v %d, not %v %d", l, c, err, want, wantErr)
		}
	}
	for a := range 49 {
		ask(a)
		for b := range a {
			ask(a, b)
			for c := range b {
				ask(a, b, c)
				for d := range c {
					ask(a, b, c, d)
				}
			}
		}
	}
	if found != len(chords) {
		t.Errorf("%d chords of %d", found, len(chords))
	}
}

// turnOf looks for the class of the lowest pitch among those of the chord.
func turnOf(l []api.Pitch, c api.Chord) int {
	low := slices.MinFunc(l, func(p, q api.Pitch) int { return 7*p.Octave + p.Letter - 7*q.Octave - q.Letter })
	notes, _ := isNotes(at(c.Root.Letter, c.Root.Alter, 0), c.Kind)
	return slices.IndexFunc(notes, func(p api.Pitch) bool { return p.Letter == low.Letter })
}

// TestWhatManyOctaves: each pitch of a chord may stand there in any octaves, in any order, any number of times.
func TestWhatManyOctaves(t *testing.T) {
	for kind := 1; kind <= 9; kind++ {
		notes, _ := isNotes(at(3, 0, 0), kind)
		for turn, low := range notes {
			var l []api.Pitch
			for octave := 12; octave >= -11; octave-- {
				for _, p := range notes {
					p.Octave = octave
					l = append(l, p, p)
				}
			}
			low.Octave = -12
			l = append(l, low, notes[0])
			if c, err := scale.What(l); c != (api.Chord{Root: class(3, 0), Kind: kind, Turn: turn}) || err != api.OK {
				t.Errorf("chord %d, turn %d: %v %d", kind, turn, c, err)
			}
			l = append(l, at(3, 1, 0))
			if c, err := scale.What(l); c != (api.Chord{}) || err != api.ErrNone {
				t.Errorf("chord %d with a class more: %v %d", kind, c, err)
			}
		}
	}
}

func TestWhatWrong(t *testing.T) {
	for _, l := range [][]api.Pitch{nil, {}, {at(0, 0, 4)}, {at(0, 0, 4), at(2, 0, 4)}, {at(0, 0, 4), at(0, 1, 4)}} {
		if c, err := scale.What(l); c != (api.Chord{}) || err != api.ErrNone {
			t.Errorf("%v: %v %d", l, c, err)
		}
	}
	for _, wrong := range []api.Pitch{at(-1, 0, 4), at(7, 0, 4), at(0, 4, 4), at(0, -4, 4), at(0, 0, 13), at(0, 0, -13), at(math.MinInt, math.MaxInt, math.MinInt)} {
		for _, l := range [][]api.Pitch{{wrong}, {at(0, 0, 4), at(0, 1, 4), wrong}, {at(0, 0, 4), at(2, 0, 4), wrong, at(4, 0, 4)}} {
			if c, err := scale.What(l); c != (api.Chord{}) || err != api.ErrForm {
				t.Errorf("%v: %v %d", l, c, err)
			}
		}
	}
}

func TestWhatReadsOnly(t *testing.T) {
	l := []api.Pitch{at(4, 0, 5), at(2, 0, 4), at(0, 0, 4)}
	was := slices.Clone(l)
	scale.What(l)
	if !slices.Equal(l, was) {
		t.Errorf("%v", l)
	}
}
