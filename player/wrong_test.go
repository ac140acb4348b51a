package player_test

import (
	"math"
	"slices"
	"strings"
	"testing"

	"cantus/api"
	"cantus/score"
)

// asked is what Play is asked for: the text has a note, and what stands ahead of it and behind it.
type asked struct {
	s              api.Setting
	ahead, behind  string
	block, workers int
}

func (a asked) text() string { return "voice a " + a.ahead + " | 1/4 A4 " + a.behind }

func rightly() asked { return asked{s: plain(), block: 64, workers: 2} }

// breach is something that is wrong, and what is told of it.
type breach struct {
	name string
	do   func(a *asked)
	want api.Errno
}

// far is a place in time that can be told, of which Ticks times as much can't.
const far = "| 65519/65521 - | 7/11 -"

// endless is two bars of which the end of the second one can't be told.
const endless = " | 1/65521 - | 1/65519 -"

// breaches are in the order in which they are told.
func breaches() []breach {
	setting := func(do func(s *api.Setting)) func(a *asked) { return func(a *asked) { do(&a.s) } }
	return []breach{
		{"the text goes wrong", func(a *asked) { a.behind += " ?" }, api.ErrForm},
		{"the block is too small", func(a *asked) { a.block = 0 }, api.ErrRange},
		{"too many workers", func(a *asked) { a.workers = api.MaxWorkers + 1 }, api.ErrRange},
		{"an end that can't be told", func(a *asked) { a.behind += endless }, api.ErrMuch},
		{"no gains", setting(func(s *api.Setting) { s.Gains = nil }), api.ErrFit},
		{"no shape", setting(func(s *api.Setting) { s.Patch.Shape = 0 }), api.ErrKind},
		{"no marks", setting(func(s *api.Setting) { s.Marks = nil }), api.ErrMany},
		{"the pace is not right", setting(func(s *api.Setting) { s.Pace = api.Frac{Up: 2, Down: 4} }), api.ErrForm},
		{"no rate", setting(func(s *api.Setting) { s.Rate = 0 }), api.ErrRange},
		{"a tick that can't be told", func(a *asked) { a.ahead += far }, api.ErrMuch},
		{"no A", setting(func(s *api.Setting) { s.A = 0 }), api.ErrRange},
		{"too long", setting(func(s *api.Setting) { s.Patch.Release = api.MaxSamples }), api.ErrMany},
		{"too loud", setting(func(s *api.Setting) {
			for i := range s.Gains {
				s.Gains[i] = api.MaxLoud + 1
			}
		}), api.ErrRange},
	}
}

// refuses tells which fault is wanted: where the text goes wrong that is its last byte, all else is told at 0.
func (a asked) refuses(t *testing.T, name string, want api.Errno) {
	t.Helper()
	fault := api.Fault{Err: want}
	if text := a.text(); strings.HasSuffix(text, "?") {
		fault.At = len(text) - 1
	}
	faults(t, name, a.s, a.text(), a.block, a.workers, fault)
}

// TestB2Order: of two things that are wrong the first one is told.
func TestB2Order(t *testing.T) {
	a := rightly()
	sounds(t, "nothing is wrong", a.s, a.text(), a.block, a.workers, soundOf(t, a.s, a.text()))
	l := breaches()
	for i, first := range l {
		a := rightly()
		first.do(&a)
		a.refuses(t, first.name, first.want)
		for _, second := range l[i+1:] {
			a := rightly()
			second.do(&a)
			first.do(&a)
			a.refuses(t, first.name+", and "+second.name, first.want)
		}
	}
	all := rightly()
	for i := len(l) - 1; i >= 0; i-- {
		l[i].do(&all)
		if i > 0 { // behind the text's fault nothing more can be read
			all.refuses(t, "all from there on: "+l[i].name, l[i].want)
		}
	}
}

func TestB2Numbers(t *testing.T) {
	for _, n := range []int{math.MinInt, -1 << 32, -1, 0, api.MaxBlock + 1, 1<<32 + 1, math.MaxInt} {
		faults(t, "a block", plain(), "voice a | 1/4 A4", n, 1, api.Fault{Err: api.ErrRange})
		faults(t, "a block, and nothing sounds", plain(), "voice a", n, 1, api.Fault{Err: api.ErrRange})
	}
	for _, n := range []int{math.MinInt, -1 << 32, -1, 0, api.MaxWorkers + 1, 1<<32 + 1, math.MaxInt} {
		faults(t, "workers", plain(), "voice a | 1/4 A4", 1, n, api.Fault{Err: api.ErrRange})
		faults(t, "workers, and nothing sounds", plain(), "voice a", 1, n, api.Fault{Err: api.ErrRange})
	}
	for _, n := range []int{math.MinInt, -1, 0, api.MaxSampleRate + 1, math.MaxInt} {
		s := with(plain(), func(s *api.Setting) { s.Rate = n })
		faults(t, "a rate", s, "voice a | 1/4 A4", 64, 2, api.Fault{Err: api.ErrRange})
		faults(t, "a rate, and nothing sounds", s, "voice a | 1/4 -", 64, 2, api.Fault{Err: api.ErrRange})
	}
	for _, x := range []float64{0, math.Copysign(0, -1), -440, math.Nextafter(api.LeastHertz, 0), math.Nextafter(api.MostHertz, math.Inf(1)), math.Inf(1), math.Inf(-1), math.NaN()} {
		s := with(plain(), func(s *api.Setting) { s.A, s.Rate = x, api.MaxSampleRate })
		faults(t, "an A", s, "voice a | 1/4 A4", 64, 2, api.Fault{Err: api.ErrRange})
		sounds(t, "an A, and nothing sounds", s, "voice a | 1/4 -", 64, 2, nil)
	}
}

// TestB2Text: the fault of a text is told with its place.
func TestB2Text(t *testing.T) {
	for text, want := range map[string]api.Fault{
		"voice":                        {Err: api.ErrForm, At: 5},
		"voice a | 1/4":                {Err: api.ErrForm, At: 13},
		"voice a | 1/4 H4":             {Err: api.ErrForm, At: 14},
		"voice a | 1/4 A4*0":           {Err: api.ErrRange, At: 17},
		"voice a | 1/4 A4 \"":          {Err: api.ErrForm, At: 18},
		strings.Repeat(" ", 65537):     {Err: api.ErrMuch},
		strings.Repeat("voice a ", 65): {Err: api.ErrMany, At: 512},
	} {
		faults(t, text, plain(), text, 64, 2, want)
	}
	for text, want := range map[string]api.Errno{
		"voice a | 1/4 up P8 [A4 A12]":               api.ErrRange,
		"voice a | 1/4 A4" + endless:                 api.ErrMuch,
		"voice a | 1/4 A4 | 1/65521 A4 | 1/65519 A4": api.ErrMuch,
	} {
		faults(t, text, plain(), text, 64, 2, api.Fault{Err: want})
	}
}

func TestB2Gains(t *testing.T) {
	two := "voice a | 2/3840 A4 voice b | 2/3840 A4"
	for _, x := range []struct {
		text  string
		gains []int
		want  api.Errno
	}{
		{"", []int{1}, api.ErrFit},
		{"voice a", nil, api.ErrFit},
		{two, nil, api.ErrFit},
		{two, []int{1}, api.ErrFit},
		{two, []int{1, 2, 3}, api.ErrFit},
		{two, []int{api.MaxLoud + 1, 0}, api.ErrRange},
		{two, []int{0, -api.MaxLoud - 1}, api.ErrRange},
		{two, []int{math.MinInt, math.MaxInt}, api.ErrRange},
		{"voice a", []int{api.MaxLoud + 1}, api.ErrRange},
	} {
		faults(t, x.text, with(plain(), func(s *api.Setting) { s.Gains = x.gains }), x.text, 64, 2, api.Fault{Err: x.want})
	}
	more := func(s *api.Setting) { s.Gains, s.Patch.Shape = []int{1, 2}, 0 }
	faults(t, "a gain too many ahead of the patch", with(plain(), more), "voice a | 1/4 A4", 64, 2, api.Fault{Err: api.ErrFit})
	loudest := with(slow(), func(s *api.Setting) { s.Gains = []int{api.MaxLoud, -api.MaxLoud} })
	sounds(t, "the greatest gains", loudest, two, 64, 2, []int{0, 0})
	loudest.Gains = []int{-api.MaxLoud, 0}
	sounds(t, "the least gain", loudest, two, 64, 2, []int{-32768, -32768})
}

// TestB2Setting: what is wrong with patch, marks and pace is told whatever sounds.
func TestB2Setting(t *testing.T) {
	for _, x := range []struct {
		name string
		do   func(s *api.Setting)
		want api.Errno
	}{
		{"no shape", func(s *api.Setting) { s.Patch.Shape = 5 }, api.ErrKind},
		{"a gain that is no number", func(s *api.Setting) { s.Patch.Gain = math.NaN() }, api.ErrRange},
		{"too loud", func(s *api.Setting) { s.Patch.Gain = api.MaxGain + 1 }, api.ErrRange},
		{"attack", func(s *api.Setting) { s.Patch.Attack = -1 }, api.ErrRange},
		{"decay", func(s *api.Setting) { s.Patch.Decay = api.MaxStage + 1 }, api.ErrRange},
		{"release", func(s *api.Setting) { s.Patch.Release = -1 }, api.ErrRange},
		{"a long release", func(s *api.Setting) { s.Patch.Release = math.MaxInt }, api.ErrRange},
		{"sustain", func(s *api.Setting) { s.Patch.Sustain = api.One + 1 }, api.ErrRange},
		{"no marks", func(s *api.Setting) { s.Marks = []api.Mark{} }, api.ErrMany},
		{"too many marks", func(s *api.Setting) { s.Marks = make([]api.Mark, api.MaxMarks+1) }, api.ErrMany},
		{"no pace at a mark", func(s *api.Setting) { s.Marks = []api.Mark{{}} }, api.ErrRange},
		{"not at 0", func(s *api.Setting) { s.Marks = []api.Mark{{At: 1, Pace: 1}} }, api.ErrFit},
		{"a late mark", func(s *api.Setting) { s.Marks = []api.Mark{{Pace: 1}, {At: api.MaxTick + 1, Pace: 1}} }, api.ErrRange},
		{"no pace", func(s *api.Setting) { s.Pace = api.Frac{} }, api.ErrForm},
		{"a pace of nought", func(s *api.Setting) { s.Pace = api.Frac{Down: 1} }, api.ErrRange},
		{"a pace below nought", func(s *api.Setting) { s.Pace = api.Frac{Up: -1, Down: 1} }, api.ErrRange},
		{"a pace of large parts", func(s *api.Setting) { s.Pace = api.Frac{Up: api.MaxRate + 1, Down: 1} }, api.ErrRange},
	} {
		for _, text := range []string{"voice a | 1/4 A4", "voice a | 1/4 -", "voice a"} {
			faults(t, x.name, with(plain(), x.do), text, 64, 2, api.Fault{Err: x.want})
		}
	}
}

// TestB2Notes: note by note, and of each in its order, what can't be told of it.
func TestB2Notes(t *testing.T) {
	long := func(s *api.Setting) { s.Patch.Release = api.MaxSamples }
	silent := func(s *api.Setting) { s.A = 0 }
	none := func(s *api.Setting) {}
	ties := strings.Repeat(" | 65536/1 ~", 5)
	for _, x := range []struct {
		name string
		do   func(s *api.Setting)
		text string
		want api.Errno
	}{
		{"it begins too late", none, "voice a | 300/1 - | 1/4 A4", api.ErrRange},
		{"it ends too late", none, "voice a | 300/1 A4", api.ErrRange},
		{"a tick too late", none, "voice a | 4095/15 - | 257/3840 A4", api.ErrRange},
		{"silence may be too late", none, "voice a | 300/1 - | 300/1 A12", api.ErrRange},
		{"its beginning can't be told", none, "voice a " + far + " | 1/4 A4", api.ErrMuch},
		{"its end can't be told", none, "voice a | 65519/65521 A4 | 7/11 ~", api.ErrMuch},
		{"it begins too late, and its end can't be told", none, "voice a | 600/1 - A4" + ties, api.ErrRange},
		{"its beginning can't be told, and it ends too late", none, "voice a | 600/1 -*65519 A4*2", api.ErrMuch},
		{"its end ahead of A", silent, "voice a | 65536/1 A4" + ties, api.ErrMuch},
		{"its end ahead of its length", long, "voice a | 65536/1 A4" + ties, api.ErrMuch},
		{"too high", none, "voice a | 1/4 A6", api.ErrRange},
		{"far too high", none, "voice a | 1/4 B♯♯♯12", api.ErrRange},
		{"too high ahead of too long", long, "voice a | 1/4 A6", api.ErrRange},
		{"A ahead of too long", func(s *api.Setting) { long(s); silent(s) }, "voice a | 1/4 A4", api.ErrRange},
		{"the first one is too high, the second one can't be told", none, "voice a | 1/4 A6 " + far + " | 1/4 A4", api.ErrRange},
		{"the first one can't be told, the second one is too high", none, "voice a | 65519/65521 A4 | 7/11 ~ | 1/4 A6", api.ErrMuch},
		{"the first one is too long, the second one too high", long, "voice a | 1/4 A4 A6", api.ErrMany},
		{"the first one is too high, the second one too long", long, "voice a | 1/4 A6 A4", api.ErrRange},
		{"in a chord", long, "voice a | 1/4 <A4 A6>", api.ErrMany},
		{"a second voice can't be told", none, "voice a | 1/4 A4 voice b " + far + " | 1/4 A4", api.ErrMuch},
		{"a voice ahead is too high", none, "voice a | 1/4 A4 A6 voice b " + far + " | 1/4 A4", api.ErrRange},
		{"a voice behind is too high", none, "voice a | 65519/65521 A4 | 7/11 ~ voice b | 1/4 A6", api.ErrMuch},
	} {
		s := with(plain(), x.do)
		s.Gains = make([]int, strings.Count(x.text, "voice"))
		piece, _ := score.Read(x.text)
		if l, err := score.Notes(piece); err != api.OK || len(l) == 0 {
			t.Errorf("%s: its notes can't be told: %d", x.name, err)
		}
		faults(t, x.name, s, x.text, 64, 2, api.Fault{Err: x.want})
	}
	sounds(t, "as high as can be", plain(), "voice a | 2/3840 A5", 64, 2, []int{half, -half})
	faults(t, "half a tone higher", plain(), "voice a | 2/3840 B♭5", 64, 2, api.Fault{Err: api.ErrRange})
}

// TestB2Many: nothing is heard beyond sample MaxSamples, and up to there all is.
func TestB2Many(t *testing.T) {
	down := joined(line(1<<19, half), line(1<<19, -half))
	sounds(t, "as long as can be", slow(), "voice a | 4096/15 A4", api.MaxBlock, 2, down)
	fading := with(slow(), func(s *api.Setting) { s.Patch.Release = 256 })
	sounds(t, "it fades as long as can be", fading, "voice a | 4095/15 A4", 1000, 2, soundOf(t, fading, "voice a | 4095/15 A4"))
	for _, x := range []struct {
		name string
		do   func(s *api.Setting)
		text string
	}{
		{"one too long", func(s *api.Setting) { s.Patch.Release = 1 }, "voice a | 4096/15 A4"},
		{"it fades too long", func(s *api.Setting) { s.Patch.Release = 257 }, "voice a | 4095/15 A4"},
		{"it fades far too long", func(s *api.Setting) { s.Patch.Release = api.MaxStage }, "voice a | 1/4 A4"},
		{"not heard within bounds", func(s *api.Setting) { s.Pace.Down = 1 }, "voice a | 200/1 - | 1/4 A4"},
		{"as far as can be", func(s *api.Setting) { s.Marks[0].Pace, s.Pace = api.MaxPace, api.Frac{Up: api.MaxRate, Down: 1} }, "voice a | 4096/15 A4"},
		{"a second voice", func(s *api.Setting) { s.Patch.Release = 257 }, "voice a | 1/4 A4 voice b | 4095/15 - A4"},
	} {
		s := with(slow(), x.do)
		for _, gain := range []int{1, api.MaxLoud + 1} { // it is told ahead of what is too loud
			s.Gains = slices.Repeat([]int{gain}, strings.Count(x.text, "voice"))
			faults(t, x.name, s, x.text, 64, 2, api.Fault{Err: api.ErrMany})
		}
	}
}

// TestB2Loud: a track's samples have the bounds of chapter 17.
func TestB2Loud(t *testing.T) {
	s := with(slow(), func(s *api.Setting) { s.Patch.Gain, s.Patch.Release = -1, 1000 })
	chords := func(n int) string { return " | 1/3840" + strings.Repeat(" <"+strings.Repeat("A4 ", 16)+">", n) }
	sounds(t, "512 notes", s, "voice a"+chords(32), 64, 2, soundOf(t, s, "voice a"+chords(32)))
	faults(t, "513 notes", s, "voice a"+chords(32)+" | 1/3840 A4", 64, 2, api.Fault{Err: api.ErrRange})
	s.Gains = []int{1 << 16, 1 << 15}
	both := "voice a" + chords(20) + " voice b" + chords(20)
	sounds(t, "in two tracks", s, both, 64, 2, soundOf(t, s, both))
}
