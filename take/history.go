package take

import (
	"sort"

	"cantus/api"
	"cantus/canon"
)

// history is the lines that each EditPut and EditCut made: of those that stand, and behind them of those that were undone and can be done again.
// Lines and histories are never changed, only new ones made of them: an edit that comes to nothing leaves all as it was.
type history struct {
	versions [][]api.Tone
	stand    int // how many of them
}

// line is the line as it is.
func (h history) line() []api.Tone {
	if h.stand == 0 {
		return nil
	}
	return h.versions[h.stand-1]
}

// after is the history behind an edit; what is wrong with the edit.
func (h history) after(e api.Edit) (history, api.Errno) {
	switch e.Do {
	case api.EditPut:
		return h.put(e.Tone)
	case api.EditCut:
		return h.cut(e.N)
	case api.EditUndo:
		return h.undo()
	case api.EditRedo:
		return h.redo()
	}
	return history{}, api.ErrKind
}

func (h history) put(t api.Tone) (history, api.Errno) {
	if err := canon.Wrong([]api.Tone{t}); err != api.OK {
		return history{}, err
	}
	if len(h.line()) == api.MaxTones {
		return history{}, api.ErrMany
	}
	return h.with(longer(h.line(), t)), api.OK
}

func (h history) cut(place int) (history, api.Errno) {
	if place < 0 || place >= len(h.line()) {
		return history{}, api.ErrRange
	}
	return h.with(shorter(h.line(), place)), api.OK
}

func (h history) undo() (history, api.Errno) {
	if h.stand == 0 {
		return history{}, api.ErrNone
	}
	return history{h.versions, h.stand - 1}, api.OK
}

func (h history) redo() (history, api.Errno) {
	if h.stand == len(h.versions) {
		return history{}, api.ErrNone
	}
	return history{h.versions, h.stand + 1}, api.OK
}

// with is a history in which one more version stands, and none is undone.
func (h history) with(line []api.Tone) history {
	standing := h.versions[:h.stand:h.stand] // without spare room: there lie the versions that this history can do again
	return history{append(standing, line), h.stand + 1}
}

// longer is a line with one more tone, behind all that do not stand behind it.
func longer(line []api.Tone, t api.Tone) []api.Tone {
	place := sort.Search(len(line), func(i int) bool { return behind(line[i], t) })
	made := make([]api.Tone, len(line)+1)
	copy(made, line[:place])
	made[place] = t
	copy(made[place+1:], line[place:])
	return made
}

// shorter is a line without the tone at a place.
func shorter(line []api.Tone, place int) []api.Tone {
	made := make([]api.Tone, len(line)-1)
	copy(made, line[:place])
	copy(made[place:], line[place+1:])
	return made
}

// behind tells whether one right tone stands behind another one: then it does not fit ahead of it.
func behind(a, b api.Tone) bool { return canon.Wrong([]api.Tone{a, b}) == api.ErrFit }
