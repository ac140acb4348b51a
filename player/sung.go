package player

import (
	"cantus/api"
	"cantus/clock"
	"cantus/frac"
	"cantus/mix"
	"cantus/tune"
	"cantus/voice"
)

// sung is a note for a voice of its own: it is held from one sample up to another one.
type sung struct {
	patch    api.Patch
	from, to int
}

// share gives each of so many voices its notes, as they are sung.
func share(s api.Setting, notes []api.Note, voices int) ([][]sung, api.Errno) {
	parts := make([][]sung, voices)
	for _, note := range notes {
		n, err := sing(s, note)
		if err != api.OK {
			return nil, err
		}
		parts[note.Voice] = append(parts[note.Voice], n)
	}
	return parts, api.OK
}

func sing(s api.Setting, note api.Note) (sung, api.Errno) {
	n := sung{patch: s.Patch}
	end, err := frac.Plus(note.Start, note.Long)
	if err != api.OK {
		return sung{}, err
	}
	if n.from, err = sample(s, note.Start); err != api.OK {
		return sung{}, err
	}
	if n.to, err = sample(s, end); err != api.OK {
		return sung{}, err
	}
	hertz, err := tune.Hertz(note.Pitch, s.A)
	if err != api.OK {
		return sung{}, err
	}
	if n.patch.Step, err = voice.Step(hertz, s.Rate); err != api.OK {
		return sung{}, err
	}
	if n.end() > api.MaxSamples {
		return sung{}, api.ErrMany
	}
	return n, api.OK
}

// sample is the one that a time falls on.
func sample(s api.Setting, t api.Frac) (int, api.Errno) {
	ticks, err := frac.Times(t, api.Frac{Up: api.Ticks, Down: 1})
	if err != api.OK {
		return 0, err
	}
	at, err := frac.Floor(ticks)
	if err != api.OK {
		return 0, err
	}
	return clock.Place(s.Marks, at, s.Pace)
}

// end is the first sample on which it is heard no more.
func (n sung) end() int { return n.to + n.patch.Release }

// add puts what is heard of it to what a track has. That its patch is right was seen ahead of all notes.
func (n sung) add(track []int, block int) {
	v, _ := voice.New(n.patch)
	hear(v, track[n.from:n.to], block)
	v.Off()
	hear(v, track[n.to:n.end()], block)
}

// hear puts the next samples of a voice to those that are there, block of them at once or fewer.
func hear(v *voice.Voice, track []int, block int) {
	for len(track) > 0 {
		n := min(block, len(track))
		sound, _ := v.Render(n)
		for i, x := range sound {
			track[i] += mix.Round(x)
		}
		track = track[n:]
	}
}
