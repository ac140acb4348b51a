package wire

import "cantus/api"

// more stands in each byte of a wait behind which another one comes; it is also where bytes begin that tell a kind, and so the bound of A and B.
const more = 128

// maxBytes: of a wait below api.MaxWait, seven bits in each.
const maxBytes = 4

// appendEvent puts an event's bytes behind others. Of the first event the one ahead is the zero one: its tick is 0, and its kind is none, so that the first kind is always told.
func appendEvent(out []byte, e, ahead api.Event) []byte {
	out = appendWait(out, e.At-ahead.At)
	if e.Kind != ahead.Kind || e.Channel != ahead.Channel {
		out = append(out, byte(16*e.Kind+e.Channel))
	}
	out = append(out, byte(e.A))
	if hasB(e.Kind) {
		out = append(out, byte(e.B))
	}
	return out
}

func appendWait(out []byte, wait int) []byte {
	for shift := 7 * (maxBytes - 1); shift > 0; shift -= 7 {
		if high := wait >> shift; high > 0 {
			out = append(out, byte(more+high%more))
		}
	}
	return append(out, byte(wait%more))
}

// reader stands at the byte that comes next. It stays at one with which it cannot go on, so that where it stands is where the fault is.
type reader struct {
	bytes string
	at    int
}

// event reads the event behind the one ahead (of the first: the zero one, as appendEvent has it).
func (r *reader) event(ahead api.Event) (e api.Event, ok bool) {
	wait, ok := r.wait()
	if !ok {
		return api.Event{}, false
	}
	e.At = ahead.At + wait
	if e.Kind, e.Channel, ok = r.head(ahead); !ok {
		return api.Event{}, false
	}
	if e.A, ok = r.part(); !ok {
		return api.Event{}, false
	}
	if !hasB(e.Kind) {
		return e, true
	}
	if e.B, ok = r.part(); !ok {
		return api.Event{}, false
	}
	return e, true
}

func (r *reader) wait() (int, bool) {
	wait := 0
	for i := range maxBytes {
		c, ok := r.peek()
		if !ok || i == 0 && c == more || i == maxBytes-1 && c >= more {
			return 0, false
		}
		r.at++
		wait = wait*more + c%more
		if c < more {
			return wait, true
		}
	}
	return 0, false
}

// head reads the kind and the channel; where no byte tells them they are those of the event ahead.
func (r *reader) head(ahead api.Event) (kind, channel int, ok bool) {
	c, ok := r.peek()
	if !ok {
		return 0, 0, false
	}
	if c < more {
		return ahead.Kind, ahead.Channel, isKind(ahead.Kind)
	}
	kind, channel = c/16, c%16
	if !isKind(kind) || kind == ahead.Kind && channel == ahead.Channel {
		return 0, 0, false
	}
	r.at++
	return kind, channel, true
}

// part reads A or B.
func (r *reader) part() (int, bool) {
	c, ok := r.peek()
	if !ok || !isPart(c) {
		return 0, false
	}
	r.at++
	return c, true
}

func (r *reader) peek() (int, bool) {
	if r.at >= len(r.bytes) {
		return 0, false
	}
	return int(r.bytes[r.at]), true
}
