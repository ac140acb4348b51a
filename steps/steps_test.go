package steps_test

import (
	"math"
	"math/rand"
	"slices"
	"testing"

	"cantus/api"
	"cantus/steps"
)

func on(at, key int) api.Event { return api.Event{At: at, Kind: api.EventOn, A: key, B: 1} }

func events(l ...api.Event) []api.Event { return l }

func sections(l ...api.Section) []api.Section { return l }

// nested is a section within a section, so many in all; the innermost one is the one that is handed in.
func nested(levels int, inner api.Section) []api.Section {
	l := sections(inner)
	for range levels - 1 {
		l = sections(api.Section{Times: 1, Kids: l})
	}
	return l
}

func begin(t *testing.T, l []api.Section) *steps.Player {
	t.Helper()
	p, err := steps.New(l)
	if err != api.OK || p == nil || p.At() != 0 {
		t.Fatalf("%v: %v %d", l, p, err)
	}
	return p
}

func next(t *testing.T, p *steps.Player, ticks int, want []api.Event, at int) {
	t.Helper()
	if l, err := p.Next(ticks); !slices.Equal(l, want) || err != api.OK || p.At() != at {
		t.Errorf("%d ticks: %v %d at %d, not %v at %d", ticks, l, err, p.At(), want, at)
	}
}

func seek(t *testing.T, p *steps.Player, at int) {
	t.Helper()
	if err := p.Seek(at); err != api.OK || p.At() != at {
		t.Errorf("to %d: %d at %d", at, err, p.At())
	}
}

// refused: neither Long nor New takes these sections.
func refused(t *testing.T, name string, l []api.Section, want api.Errno) {
	t.Helper()
	if long, err := steps.Long(l); long != 0 || err != want {
		t.Errorf("%s: Long is %d %d, not %d", name, long, err, want)
	}
	if p, err := steps.New(l); p != nil || err != want {
		t.Errorf("%s: New is %v %d, not %d", name, p, err, want)
	}
}

func isLong(t *testing.T, name string, l []api.Section, want int) {
	t.Helper()
	if long, err := steps.Long(l); long != want || err != api.OK {
		t.Errorf("%s: %d %d, not %d", name, long, err, want)
	}
	begin(t, l)
}

// told is all that is played of sections that are right, as X1 says it, tick by tick.
func told(l []api.Section, start int) ([]api.Event, int) {
	var out []api.Event
	for _, s := range l {
		for range s.Times {
			for _, e := range s.Events {
				e.At += start
				out = append(out, e)
			}
			kids, end := told(s.Kids, start+s.Long)
			out = append(out, kids...)
			start = end
		}
	}
	return out, start
}

func window(l []api.Event, from, to int) []api.Event {
	var out []api.Event
	for _, e := range l {
		if e.At >= from && e.At < to {
			out = append(out, e)
		}
	}
	return out
}

// drawn is a few sections that are right, some of them silent, some of no length, some never played.
func drawn(r *rand.Rand, levels int) []api.Section {
	var l []api.Section
	for range r.Intn(4) {
		s := api.Section{Times: r.Intn(4), Long: r.Intn(5)}
		at := 0
		for at += r.Intn(3); at < s.Long; at += r.Intn(3) {
			s.Events = append(s.Events, on(at, r.Intn(128)))
			if len(s.Events) == 6 {
				break
			}
		}
		if levels > 1 {
			s.Kids = drawn(r, levels-1)
		}
		l = append(l, s)
	}
	return l
}

func TestX1Order(t *testing.T) {
	for name, c := range map[string]struct {
		l    []api.Section
		want []api.Event
		long int
	}{
		"none":  {},
		"empty": {l: sections(api.Section{}), long: 0},
		"one": {
			l:    sections(api.Section{Times: 1, Long: 3, Events: events(on(0, 1), on(2, 2))}),
			want: events(on(0, 1), on(2, 2)), long: 3,
		},
		"twice": {
			l:    sections(api.Section{Times: 2, Long: 3, Events: events(on(0, 1), on(2, 2))}),
			want: events(on(0, 1), on(2, 2), on(3, 1), on(5, 2)), long: 6,
		},
		"never": {
			l:    sections(api.Section{Long: 3, Events: events(on(0, 1)), Kids: sections(api.Section{Times: 1, Long: 9})}, api.Section{Times: 1, Long: 1, Events: events(on(0, 7))}),
			want: events(on(0, 7)), long: 1,
		},
		"one behind the other": {
			l:    sections(api.Section{Times: 1, Long: 3, Events: events(on(2, 1))}, api.Section{Times: 2, Long: 2}, api.Section{Times: 1, Long: 1, Events: events(on(0, 2))}),
			want: events(on(2, 1), on(7, 2)), long: 8,
		},
		"kids each time": {
			l: sections(api.Section{Times: 2, Long: 4, Events: events(on(1, 1)), Kids: sections(
				api.Section{Times: 2, Long: 1, Events: events(on(0, 2))}, api.Section{Times: 1, Long: 2, Events: events(on(1, 3))})}),
			want: events(on(1, 1), on(4, 2), on(5, 2), on(7, 3), on(9, 1), on(12, 2), on(13, 2), on(15, 3)), long: 16,
		},
		"kids alone": {
			l:    sections(api.Section{Times: 2, Kids: sections(api.Section{Times: 1, Kids: sections(api.Section{Times: 2, Long: 1, Events: events(on(0, 5))})})}),
			want: events(on(0, 5), on(1, 5), on(2, 5), on(3, 5)), long: 4,
		},
		"the same tick": {
			l:    sections(api.Section{Times: 1, Long: 2, Events: events(on(1, 9), on(1, 3), on(1, 9), on(1, 1))}),
			want: events(on(1, 9), on(1, 3), on(1, 9), on(1, 1)), long: 2,
		},
	} {
		isLong(t, name, c.l, c.long)
		p := begin(t, c.l)
		next(t, p, c.long, c.want, c.long)
		next(t, p, 100, nil, c.long+100)
	}
}

func TestX1AllOfAnEvent(t *testing.T) {
	one := api.Event{At: 1, Kind: api.EventBend, Channel: 15, A: 127, B: 126}
	two := api.Event{At: 1, Kind: api.EventProgram, Channel: 3, A: 5}
	p := begin(t, sections(api.Section{Times: 2, Long: 2, Events: events(one, two)}))
	seek(t, p, 2)
	one.At, two.At = 3, 3
	next(t, p, 2, events(one, two), 4)
}

// TestX1AsSaid holds all cuts of sections against playing them tick by tick.
func TestX1AsSaid(t *testing.T) {
	r := rand.New(rand.NewSource(12))
	for range 3000 {
		l := drawn(r, 3)
		all, long := told(l, 0)
		isLong(t, "drawn", l, long)
		p := begin(t, l)
		for p.At() < long+3 {
			from, ticks := p.At(), r.Intn(2+r.Intn(20))
			next(t, p, ticks, window(all, from, from+ticks), from+ticks)
		}
		for range 8 {
			from, ticks := r.Intn(long+2), r.Intn(long+2)
			seek(t, p, from)
			next(t, p, ticks, window(all, from, from+ticks), from+ticks)
		}
	}
}

// TestX1AllWindows: from every tick on, for every number of ticks.
func TestX1AllWindows(t *testing.T) {
	l := sections(
		api.Section{Times: 2, Long: 3, Events: events(on(0, 1), on(0, 2), on(2, 3)), Kids: sections(
			api.Section{Times: 3, Long: 0}, api.Section{Times: 3, Long: 2, Events: events(on(1, 4)), Kids: sections(api.Section{Times: 2, Long: 1, Events: events(on(0, 5))})}, api.Section{Times: 1, Long: 1})},
		api.Section{Times: 3, Long: 2},
		api.Section{Times: 1, Long: 2, Events: events(on(1, 6), on(1, 7))},
	)
	all, long := told(l, 0)
	p := begin(t, l)
	for from := range long + 2 {
		for ticks := range long + 3 {
			seek(t, p, from)
			next(t, p, ticks, window(all, from, from+ticks), from+ticks)
		}
	}
}

func TestX2Wrong(t *testing.T) {
	tooMany := make([]api.Event, api.MaxEvents+1)
	for i := range tooMany {
		tooMany[i] = on(0, 1)
	}
	for name, c := range map[string]struct {
		s    api.Section
		want api.Errno
	}{
		"times below":           {api.Section{Times: -1}, api.ErrRange},
		"times above":           {api.Section{Times: api.MaxTimes + 1}, api.ErrRange},
		"times far":             {api.Section{Times: math.MinInt}, api.ErrRange},
		"long below":            {api.Section{Times: 1, Long: -1}, api.ErrRange},
		"long above":            {api.Section{Times: 1, Long: api.MaxLong + 1}, api.ErrRange},
		"long far":              {api.Section{Times: 1, Long: math.MaxInt}, api.ErrRange},
		"long above, never":     {api.Section{Long: api.MaxLong + 1}, api.ErrRange},
		"range ahead of events": {api.Section{Times: -1, Long: 1, Events: events(api.Event{})}, api.ErrRange},
		"events":                {api.Section{Times: 1, Long: 1, Events: tooMany}, api.ErrMany},
		"kind":                  {api.Section{Times: 1, Long: 1, Events: events(api.Event{Kind: 10})}, api.ErrKind},
		"key":                   {api.Section{Times: 1, Long: 1, Events: events(on(0, 128))}, api.ErrRange},
		"order":                 {api.Section{Times: 1, Long: 5, Events: events(on(2, 1), on(1, 1))}, api.ErrFit},
		"below 0":               {api.Section{Times: 1, Long: 5, Events: events(on(-1, 1))}, api.ErrFit},
		"wait":                  {api.Section{Times: 1, Long: 5, Events: events(on(api.MaxWait, 1))}, api.ErrMuch},
		"at Long":               {api.Section{Times: 1, Long: 5, Events: events(on(0, 1), on(5, 1))}, api.ErrFit},
		"behind Long":           {api.Section{Times: 1, Long: 5, Events: events(on(9, 1))}, api.ErrFit},
		"no room":               {api.Section{Times: 1, Events: events(on(0, 1))}, api.ErrFit},
		"never":                 {api.Section{Events: events(on(0, 1))}, api.ErrFit},
		"events ahead of fit":   {api.Section{Times: 1, Long: 5, Events: events(on(5, 1), on(6, 128))}, api.ErrRange},
	} {
		refused(t, name, sections(c.s), c.want)
		refused(t, name+", last", sections(api.Section{}, c.s), c.want)
		refused(t, name+", deep", nested(api.MaxLevel, c.s), c.want)
		refused(t, name+", kid of what is never played", sections(api.Section{Kids: sections(c.s)}), c.want)
	}
}

func TestX2Right(t *testing.T) {
	full := make([]api.Event, api.MaxEvents)
	for i := range full {
		full[i] = on(4, 1)
	}
	isLong(t, "nil", nil, 0)
	isLong(t, "no entries", sections(), 0)
	isLong(t, "longest", sections(api.Section{Times: 1, Long: api.MaxLong}), api.MaxLong)
	isLong(t, "most times", sections(api.Section{Times: api.MaxTimes, Long: 3}), 3*api.MaxTimes)
	isLong(t, "never", sections(api.Section{Long: api.MaxLong}), 0)
	isLong(t, "just ahead of Long", sections(api.Section{Times: 1, Long: 5, Events: full}), 5)
	isLong(t, "most levels", nested(api.MaxLevel, api.Section{Times: 2, Long: 3}), 6)
	isLong(t, "most sections", make([]api.Section, api.MaxSections), 0)
}

// TestX2Walk: each section stands ahead of its kids, and these ahead of what comes behind it.
func TestX2Walk(t *testing.T) {
	bad := func(want api.Errno) api.Section {
		switch want {
		case api.ErrRange:
			return api.Section{Times: -1}
		case api.ErrKind:
			return api.Section{Times: 1, Long: 1, Events: events(api.Event{})}
		}
		return api.Section{Times: 1, Events: events(on(0, 1))}
	}
	with := func(s api.Section, kids ...api.Section) api.Section {
		s.Kids = kids
		return s
	}
	most := api.Section{Times: api.MaxTimes, Long: api.MaxLong}
	much := with(api.Section{Times: api.MaxTimes, Long: 1}, most, most, most, most)
	for name, c := range map[string]struct {
		l    []api.Section
		want api.Errno
	}{
		"ahead of kids":               {sections(with(bad(api.ErrFit), bad(api.ErrRange))), api.ErrFit},
		"kids ahead of what follows":  {sections(with(api.Section{Times: 1}, bad(api.ErrKind)), bad(api.ErrRange)), api.ErrKind},
		"kid by kid":                  {sections(with(api.Section{Times: 1}, bad(api.ErrFit), bad(api.ErrRange))), api.ErrFit},
		"much ahead of what follows":  {sections(much, bad(api.ErrRange)), api.ErrMuch},
		"kids ahead of much":          {sections(with(much, most, most, most, most, bad(api.ErrKind))), api.ErrKind},
		"much, of a kid":              {sections(with(bad(api.ErrRange), much)), api.ErrRange},
		"much, of what is not played": {sections(with(api.Section{}, much)), api.ErrMuch},
	} {
		refused(t, name, c.l, c.want)
	}
}

func TestX2Levels(t *testing.T) {
	refused(t, "one level more", nested(api.MaxLevel+1, api.Section{}), api.ErrMuch)
	refused(t, "ahead of range", nested(api.MaxLevel+1, api.Section{Times: -1}), api.ErrMuch)
	refused(t, "far more", nested(5000, api.Section{}), api.ErrMuch)
	refused(t, "behind what is wrong above", sections(api.Section{Times: -1, Kids: nested(api.MaxLevel, api.Section{})}), api.ErrRange)
	// Section 257 that is met is also on level 33.
	both := make([]api.Section, api.MaxSections-api.MaxLevel)
	refused(t, "level ahead of number", append(both, nested(api.MaxLevel+1, api.Section{})...), api.ErrMuch)
	refused(t, "number ahead of level", append(append(both, api.Section{}), nested(api.MaxLevel+1, api.Section{})...), api.ErrMany)
	// What stands in itself is nested without end.
	round := make([]api.Section, 1)
	round[0].Kids = round
	refused(t, "round", round, api.ErrMuch)
	wide := make([]api.Section, 2)
	wide[1].Kids = wide
	refused(t, "round, wide", wide, api.ErrMuch)
	wide[0].Times, wide[1].Long = 1, -1
	refused(t, "round, wrong", wide, api.ErrRange)
}

func TestX2Number(t *testing.T) {
	flat := make([]api.Section, api.MaxSections+1)
	refused(t, "one more", flat, api.ErrMany)
	flat[api.MaxSections].Times = -1
	refused(t, "ahead of range", flat, api.ErrMany)
	flat[api.MaxSections-1].Times = -1
	refused(t, "the last one that is met", flat, api.ErrRange)
	pairs := make([]api.Section, api.MaxSections/2)
	for i := range pairs {
		pairs[i].Kids = make([]api.Section, 1)
	}
	isLong(t, "kids", pairs, 0)
	refused(t, "kids and one more", append(pairs, api.Section{}), api.ErrMany)
	pairs[3].Kids = make([]api.Section, 2)
	refused(t, "one kid more", pairs, api.ErrMany)
}

func TestX2Much(t *testing.T) {
	most := api.Section{Times: api.MaxTimes, Long: api.MaxLong}
	around := func(times, long int, kids ...api.Section) api.Section {
		return api.Section{Times: times, Long: long, Kids: kids}
	}
	full := around(api.MaxTimes, 0, most, most, most, most)
	fourth := around(api.MaxTimes, 0, most)
	tick := api.Section{Times: 1, Long: 1}
	isLong(t, "just so long", sections(full), api.MaxTotal)
	isLong(t, "and nothing", sections(full, api.Section{Long: 5}, around(0, 9, tick), api.Section{Times: 7}), api.MaxTotal)
	isLong(t, "four of them", sections(fourth, fourth, fourth, fourth), api.MaxTotal)
	isLong(t, "as a kid", sections(around(1, 0, full)), api.MaxTotal)
	isLong(t, "as a kid of what is never played", sections(around(0, 7, full)), 0)
	isLong(t, "never, twice", sections(around(0, 0, full), around(0, 0, full), full), api.MaxTotal)
	refused(t, "a tick behind it", sections(full, tick), api.ErrMuch)
	refused(t, "a tick ahead of it", sections(tick, full), api.ErrMuch)
	refused(t, "a tick with it", sections(around(1, 1, full)), api.ErrMuch)
	refused(t, "twice", sections(around(2, 0, full)), api.ErrMuch)
	refused(t, "a fifth one", sections(fourth, fourth, fourth, fourth, tick), api.ErrMuch)
	refused(t, "five fourths", sections(around(5, 0, fourth)), api.ErrMuch)
	refused(t, "among kids that are never played", sections(around(0, 0, full, tick)), api.ErrMuch)
	// Their products wrap round, to less than MaxTotal.
	refused(t, "2^64 and more", sections(around(1<<14, 0, full)), api.ErrMuch)
	refused(t, "2^66", sections(around(api.MaxTimes, 0, full)), api.ErrMuch)
	refused(t, "2^82", sections(around(api.MaxTimes, 0, around(api.MaxTimes, 0, full))), api.ErrMuch)
	refused(t, "32 levels", nestedTimes(api.MaxLevel, 3), api.ErrMuch)
	isLong(t, "32 levels, twice each", nestedTimes(api.MaxLevel, 2), 1<<33-2)
}

// nestedTimes is a section of one tick within a section of one tick, each so many times.
func nestedTimes(levels, times int) []api.Section {
	var l []api.Section
	for range levels {
		l = sections(api.Section{Times: times, Long: 1, Kids: l})
	}
	return l
}

func TestX3Seek(t *testing.T) {
	p := begin(t, sections(api.Section{Times: 2, Long: 3, Events: events(on(1, 1))}))
	seek(t, p, 4)
	for _, at := range []int{-1, math.MinInt, api.MaxTotal + 1, math.MaxInt} {
		if err := p.Seek(at); err != api.ErrRange || p.At() != 4 {
			t.Errorf("to %d: %d at %d", at, err, p.At())
		}
	}
	next(t, p, 1, events(on(4, 1)), 5)
	seek(t, p, 0)
	next(t, p, 2, events(on(1, 1)), 2)
	seek(t, p, 6)
	next(t, p, 2, nil, 8)
	seek(t, p, api.MaxTotal)
	next(t, p, 0, nil, api.MaxTotal)
	seek(t, p, 1)
	seek(t, p, 1)
	next(t, p, api.MaxTotal-1, events(on(1, 1), on(4, 1)), api.MaxTotal)
}

func TestX3NextRange(t *testing.T) {
	p := begin(t, sections(api.Section{Times: 1, Long: 3, Events: events(on(2, 1))}))
	stays := func(ticks, at int) {
		t.Helper()
		if l, err := p.Next(ticks); len(l) != 0 || err != api.ErrRange || p.At() != at {
			t.Errorf("%d ticks: %v %d at %d", ticks, l, err, p.At())
		}
	}
	stays(-1, 0)
	stays(math.MinInt, 0)
	stays(api.MaxTotal+1, 0)
	stays(math.MaxInt, 0)
	next(t, p, 2, nil, 2)
	stays(api.MaxTotal-1, 2)
	stays(math.MaxInt, 2)
	stays(-1, 2)
	next(t, p, api.MaxTotal-2, events(on(2, 1)), api.MaxTotal)
	stays(1, api.MaxTotal)
	next(t, p, 0, nil, api.MaxTotal)
}

func TestX3Many(t *testing.T) {
	l := sections(api.Section{Times: api.MaxTimes, Long: 2, Events: events(on(0, 1))}, api.Section{Times: 1, Long: 1, Events: events(on(0, 2))})
	p := begin(t, l)
	stays := func(ticks, at int) {
		t.Helper()
		if l, err := p.Next(ticks); len(l) != 0 || err != api.ErrMany || p.At() != at {
			t.Errorf("%d ticks: %d events %d at %d", ticks, len(l), err, p.At())
		}
	}
	stays(api.MaxTotal, 0)
	stays(2*api.MaxEvents+1, 0)
	all, _ := told(l, 0)
	next(t, p, 2*api.MaxEvents, all[:api.MaxEvents], 2*api.MaxEvents)
	seek(t, p, 1)
	stays(2*api.MaxEvents+2, 1)
	next(t, p, 2*api.MaxEvents+1, all[1:api.MaxEvents+1], 2*api.MaxEvents+2)
	// The one too many is an event of the last section.
	last := 2*api.MaxTimes - 2*api.MaxEvents
	seek(t, p, last)
	stays(2*api.MaxEvents+1, last)
	next(t, p, 2*api.MaxEvents, all[api.MaxTimes-api.MaxEvents:api.MaxTimes], 2*api.MaxTimes)
	next(t, p, 1, events(on(2*api.MaxTimes, 2)), 2*api.MaxTimes+1)
	if _, err := p.Next(api.MaxTotal); err != api.ErrRange {
		t.Errorf("%d: where it would be is told ahead of how much happens", err)
	}
}

// TestX3ManyAtOnce: events of one tick can't be cut apart.
func TestX3ManyAtOnce(t *testing.T) {
	full := make([]api.Event, api.MaxEvents)
	for i := range full {
		full[i] = on(1, i%128)
	}
	p := begin(t, sections(api.Section{Times: 2, Long: 2, Events: full}))
	next(t, p, 3, full, 3)
	seek(t, p, 0)
	if l, err := p.Next(4); len(l) != 0 || err != api.ErrMany || p.At() != 0 {
		t.Errorf("%d events %d at %d", len(l), err, p.At())
	}
}

// TestE1SilentEnds: what lasts 2^50 ticks, or is played more often than can be counted, is not gone through.
func TestE1SilentEnds(t *testing.T) {
	empty := []api.Section(nil)
	for range api.MaxLevel {
		empty = sections(api.Section{Times: api.MaxTimes, Kids: empty})
	}
	never := sections(api.Section{Times: 0, Long: 1, Events: events(on(0, 1))})
	for range 3 {
		never = sections(api.Section{Times: 1 << 15, Kids: never, Long: 1})
	}
	quiet := sections(api.Section{Times: api.MaxTimes, Long: 1, Kids: sections(api.Section{Times: api.MaxTimes, Long: 1})})
	for name, l := range map[string][]api.Section{"empty": empty, "never": never, "quiet": quiet} {
		long, err := steps.Long(l)
		if err != api.OK {
			t.Fatalf("%s: %d", name, err)
		}
		p := begin(t, append(slices.Clone(l), api.Section{Times: 1, Long: 1, Events: events(on(0, 7))}))
		next(t, p, api.MaxTotal, events(on(long, 7)), api.MaxTotal)
	}
}

// TestE1Far: 2^49 ticks away as near by.
func TestE1Far(t *testing.T) {
	deep := sections(api.Section{Times: 1, Long: 1, Events: events(on(0, 1))})
	long := 1
	for range 24 {
		deep = sections(api.Section{Times: 4, Kids: deep})
		long *= 4
	}
	isLong(t, "deep", deep, long)
	p := begin(t, deep)
	for _, at := range []int{0, 1, long / 3, long/2 - 50, long - 100} {
		seek(t, p, at)
		var want []api.Event
		for n := range 100 {
			want = append(want, on(at+n, 1))
		}
		next(t, p, 100, want, at+100)
	}
	seek(t, p, 5)
	if l, err := p.Next(long); len(l) != 0 || err != api.ErrMany || p.At() != 5 {
		t.Errorf("%d events %d at %d", len(l), err, p.At())
	}
}

// TestE2Own: a player keeps nothing of what it was given, and gives away nothing that it keeps.
func TestE2Own(t *testing.T) {
	make1 := func() []api.Section {
		return sections(api.Section{Times: 2, Long: 2, Events: events(on(0, 1), on(1, 2)), Kids: sections(api.Section{Times: 1, Long: 1, Events: events(on(0, 3))})})
	}
	given := make1()
	want, _ := told(given, 0)
	p, q := begin(t, given), begin(t, given)
	if !slices.EqualFunc(given, make1(), sameSection) {
		t.Errorf("what was given is %v", given)
	}
	given[0].Kids[0].Events[0].A = 99
	given[0].Events[1].A = 99
	given[0].Kids[0].Times = 5
	given[0].Kids = nil
	given[0].Times = 1
	for range 2 {
		got, err := p.Next(6)
		if err != api.OK || !slices.Equal(got, want) {
			t.Errorf("%v %d, not %v", got, err, want)
		}
		for i := range got[:cap(got)] {
			got[:cap(got)][i] = api.Event{}
		}
		seek(t, p, 0)
	}
	if q.At() != 0 {
		t.Errorf("one player went on with another one, to %d", q.At())
	}
	next(t, q, 6, want, 6)
}

func sameSection(a, b api.Section) bool {
	return a.Times == b.Times && a.Long == b.Long && slices.Equal(a.Events, b.Events) && slices.EqualFunc(a.Kids, b.Kids, sameSection)
}

// TestE2SpareRoom: the room behind a list that is handed in stays as it is.
func TestE2SpareRoom(t *testing.T) {
	room := events(on(0, 1), on(1, 2), on(1, 3))
	l := make([]api.Section, 1, 2)
	l[:2][1] = api.Section{Times: 1, Long: 1}
	l[0] = api.Section{Times: 1, Long: 2, Events: room[:2]}
	p := begin(t, l)
	next(t, p, 9, events(on(0, 1), on(1, 2)), 9)
	if room[2] != on(1, 3) || l[:2][1].Long != 1 {
		t.Errorf("%v %v", room, l[:2])
	}
}
