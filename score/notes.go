package score

import (
	"strings"

	"cantus/api"
	"cantus/frac"
	"cantus/pitch"
	"cantus/rhythm"
)

// Notes is all that sounds in a piece, voice by voice.
func Notes(l []api.Voice) ([]api.Note, api.Errno) {
	if err := Wrong(l); err != api.OK {
		return nil, err
	}
	var s singer
	for i, v := range l {
		s.begin(i)
		for _, b := range v.Bars {
			if err := s.bar(b); err != api.OK {
				return nil, err
			}
		}
	}
	return s.notes, api.OK
}

// singer goes through a piece, item by item.
type singer struct {
	notes []api.Note
	voice int
	at    api.Frac       // where the bar begins
	times []api.Span     // of the bar's items without kids, from the next one on; they are counted from the bar's beginning
	moves []api.Interval // those of all that it stands in, the innermost last
	held  int            // so many of the last notes are made longer by a tie
}

func (s *singer) begin(voice int) {
	s.voice, s.at, s.held = voice, api.Frac{Down: 1}, 0
}

func (s *singer) bar(b api.Bar) api.Errno {
	long, err := frac.Make(b.Up, b.Down)
	if err != api.OK {
		return err
	}
	if s.times, err = rhythm.Spans(asGroup(1, b.Items), long); err != api.OK {
		return err
	}
	if err = s.items(b.Items); err != api.OK {
		return err
	}
	s.at, err = frac.Plus(s.at, long)
	return err
}

// asGroup is the beat of what has these kids.
func asGroup(share int, kids []api.Item) api.Beat {
	b := api.Beat{Kind: api.BeatGroup, Share: share}
	for _, it := range kids {
		if hasKids(it) {
			b.Kids = append(b.Kids, asGroup(it.Share, it.Kids))
			continue
		}
		// A tie would be told together with what is ahead of it: as a note each one has a span of its own.
		b.Kids = append(b.Kids, api.Beat{Kind: api.BeatNote, Share: it.Share})
	}
	return b
}

func (s *singer) items(l []api.Item) api.Errno {
	for _, it := range l {
		if err := s.item(it); err != api.OK {
			return err
		}
	}
	return api.OK
}

func (s *singer) item(it api.Item) api.Errno {
	switch it.Kind {
	case api.ItemGroup:
		return s.items(it.Kids)
	case api.ItemMoved:
		s.moves = append(s.moves, it.By)
		err := s.items(it.Kids)
		s.moves = s.moves[:len(s.moves)-1]
		return err
	}
	return s.leaf(it)
}

func (s *singer) leaf(it api.Item) api.Errno {
	time := s.times[0]
	s.times = s.times[1:]
	// What is silent has its time too, which must be told.
	start, err := frac.Plus(s.at, time.Start)
	if err != api.OK {
		return err
	}
	switch it.Kind {
	case api.ItemNote:
		return s.chord(it, start, time.Long)
	case api.ItemTie:
		return s.tie(time.Long)
	}
	s.held = 0
	return api.OK
}

func (s *singer) chord(it api.Item, start, long api.Frac) api.Errno {
	lyric := strings.Clone(it.Lyric)
	for _, p := range it.Pitches {
		moved, err := s.moved(p)
		if err != api.OK {
			return err
		}
		s.notes = append(s.notes, api.Note{Voice: s.voice, Start: start, Long: long, Pitch: moved, Lyric: lyric})
	}
	s.held = len(it.Pitches)
	return api.OK
}

// moved goes step by step: a way on which one pitch can't be written is none, even if its end could be.
func (s *singer) moved(p api.Pitch) (api.Pitch, api.Errno) {
	for i := len(s.moves) - 1; i >= 0; i-- {
		var err api.Errno
		if p, err = pitch.Move(p, s.moves[i]); err != api.OK {
			return api.Pitch{}, err
		}
	}
	return p, api.OK
}

func (s *singer) tie(long api.Frac) api.Errno {
	last := s.notes[len(s.notes)-s.held:]
	for i := range last {
		var err api.Errno
		if last[i].Long, err = frac.Plus(last[i].Long, long); err != api.OK {
			return err
		}
	}
	return api.OK
}
