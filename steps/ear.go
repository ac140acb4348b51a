package steps

import (
	"cmp"
	"slices"

	"cantus/api"
)

// ear hears what happens from a tick on, ahead of another one; what it is asked to hear it hears unless there is too much.
type ear struct {
	from, to int
	events   []api.Event
}

// parts are those of something that begins at a tick.
func (e *ear) parts(l []part, start int) bool {
	for _, p := range l {
		if !e.part(p, start+p.start) {
			return false
		}
	}
	return true
}

func (e *ear) part(p part, start int) bool {
	for n := p.during(e.from - start); n < p.times; n++ {
		begins := start + n*p.once
		if begins >= e.to {
			break
		}
		if !e.own(p.events, begins) || !e.parts(p.kids, begins) {
			return false
		}
	}
	return true
}

// own are the events of one time of a section, which begins at a tick.
func (e *ear) own(l []api.Event, begins int) bool {
	first, _ := slices.BinarySearchFunc(l, e.from-begins, func(v api.Event, at int) int { return cmp.Compare(v.At, at) })
	for _, v := range l[first:] {
		v.At += begins
		if v.At >= e.to {
			break
		}
		if len(e.events) == api.MaxEvents {
			return false
		}
		e.events = append(e.events, v)
	}
	return true
}
