package scale

import (
	"cantus/api"
	"cantus/pitch"
)

const thirdSteps = 2

// overRoot: of each kind the half tones of its third, fifth and seventh (0: it has none) over the root.
var overRoot = [...][3]int{
	api.Major:      {4, 7},
	api.Minor:      {3, 7},
	api.Diminished: {3, 6},
	api.Augmented:  {4, 8},
	api.Dominant:   {4, 7, 10},
	api.MajorSeven: {4, 7, 11},
	api.MinorSeven: {3, 7, 10},
	api.HalfDim:    {3, 6, 10},
	api.FullDim:    {3, 6, 9},
}

// classes are those of some pitches that have no letter in two ways: which letters there are, and how each is altered.
type classes struct {
	has   [letters]bool
	alter [letters]int
}

// Notes are the pitches of a chord, the root the lowest.
func Notes(root api.Pitch, kind int) ([]api.Pitch, api.Errno) {
	if kind < api.Major || kind > api.FullDim {
		return nil, api.ErrKind
	}
	if !pitch.Right(root) {
		return nil, api.ErrForm
	}
	out := []api.Pitch{root}
	for i, halves := range overRoot[kind] {
		if halves == 0 {
			break
		}
		p, err := pitch.Move(root, api.Interval{Steps: thirdSteps * (i + 1), Halves: halves})
		if err != api.OK {
			return nil, err
		}
		out = append(out, p)
	}
	return out, api.OK
}

// What is the chord that pitches are.
func What(l []api.Pitch) (api.Chord, api.Errno) {
	for _, p := range l {
		if !pitch.Right(p) {
			return api.Chord{}, api.ErrForm
		}
	}
	sought, ok := gather(l)
	if !ok {
		return api.Chord{}, api.ErrNone
	}
	for letter, alter := range sought.alter {
		root := api.Class{Letter: letter, Alter: alter}
		for kind := api.Major; kind <= api.FullDim; kind++ {
			if isChord(sought, root, kind) {
				return api.Chord{Root: root, Kind: kind, Turn: turnOf(root, lowest(l))}, api.OK
			}
		}
	}
	return api.Chord{}, api.ErrNone
}

// gather tells the classes of right pitches: none, if a letter is altered in two ways, as no chord has it.
func gather(l []api.Pitch) (classes, bool) {
	var out classes
	for _, p := range l {
		if out.has[p.Letter] && out.alter[p.Letter] != p.Alter {
			return classes{}, false
		}
		out.has[p.Letter] = true
		out.alter[p.Letter] = p.Alter
	}
	return out, true
}

func isChord(sought classes, root api.Class, kind int) bool {
	// Octave 0 is as good as any: no bound of the octaves is near it.
	notes, err := Notes(inOctave(root, 0), kind)
	if err != api.OK {
		return false
	}
	found, ok := gather(notes)
	return ok && found == sought
}

// lowest needs at least one pitch.
func lowest(l []api.Pitch) api.Pitch {
	low := l[0]
	for _, p := range l[1:] {
		// The half tones of two pitches on the same step of the stave differ in no chord, so the steps alone say it.
		if i, err := pitch.Between(low, p); err == api.OK && i.Steps < 0 {
			low = p
		}
	}
	return low
}

// turnOf counts the thirds from the root's letter up to the lowest one's.
func turnOf(root api.Class, low api.Pitch) int {
	return (low.Letter - root.Letter + letters) % letters / thirdSteps
}
