package steps

import "cantus/api"

// turns is what is played again and again, one behind the other, once as long as the other times.
type turns struct {
	times, once int
}

// tooLong divides, as the product may not fit into an int.
func (t turns) tooLong() bool { return t.times > 0 && t.once > api.MaxTotal/t.times }

func (t turns) all() int { return t.times * t.once }

// during is the first time that ends behind a tick.
func (t turns) during(tick int) int { return max(tick, 0) / t.once }

// part is a section in which something happens: each time of it at least one event does, and it lasts at least one tick.
// Were silent ones kept, more times than can be gone through might have to be, with nothing to show for them.
type part struct {
	turns
	start  int // ticks behind the beginning of one time of what it stands in
	events []api.Event
	kids   []part
}

// heard is the parts of sections that are right and begin at a tick, and the tick at which these end.
func heard(l []api.Section, start int) ([]part, int) {
	var parts []part
	for _, s := range l {
		kids, once := heard(s.Kids, s.Long)
		t := turns{times: s.Times, once: once}
		if s.Times > 0 && len(s.Events)+len(kids) > 0 {
			parts = append(parts, part{turns: t, start: start, events: copied(s.Events), kids: kids})
		}
		start += t.all()
	}
	return parts, start
}

func copied(l []api.Event) []api.Event {
	own := make([]api.Event, len(l))
	copy(own, l)
	return own
}
