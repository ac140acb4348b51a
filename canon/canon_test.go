package canon_test

import (
	"math"
	"math/rand"
	"slices"
	"testing"

	"cantus/api"
	"cantus/canon"
	"cantus/pitch"
)

func at(letter, alter, octave int) api.Pitch {
	return api.Pitch{Letter: letter, Alter: alter, Octave: octave}
}

func iv(steps, halves int) api.Interval { return api.Interval{Steps: steps, Halves: halves} }

func tone(start, long int, p api.Pitch) api.Tone {
	return api.Tone{At: start, Long: long, Pitch: p}
}

var c4, d4, e4, g4 = at(0, 0, 4), at(1, 0, 4), at(2, 0, 4), at(4, 0, 4)

// theme is a line with a chord in it, whose first tone lasts beyond the last one.
func theme() []api.Tone {
	return []api.Tone{tone(0, 20, c4), tone(4, 2, e4), tone(4, 2, g4), tone(6, 5, d4)}
}

// same is a line of one tone, n times.
func same(t api.Tone, n int) []api.Tone { return slices.Repeat([]api.Tone{t}, n) }

// ahead is the order of C1 as it is said.
func ahead(a, b api.Tone) bool {
	x := [5]int{a.At, a.Long, a.Pitch.Octave, a.Pitch.Letter, a.Pitch.Alter}
	y := [5]int{b.At, b.Long, b.Pitch.Octave, b.Pitch.Letter, b.Pitch.Alter}
	for i := range x {
		if x[i] != y[i] {
			return x[i] < y[i]
		}
	}
	return false
}

// ordered puts tones in one by one, each ahead of the first one that it stands ahead of.
func ordered(l []api.Tone) []api.Tone {
	var out []api.Tone
	for _, t := range l {
		i := 0
		for i < len(out) && !ahead(t, out[i]) {
			i++
		}
		out = slices.Insert(out, i, t)
	}
	return out
}

// applied is C2 as it is said, of a right line.
func applied(c api.Change, l []api.Tone) ([]api.Tone, api.Errno) {
	if c.Slow < 1 || c.Slow > 16 || c.Delay < 0 || c.Delay > 1<<20 {
		return nil, api.ErrRange
	}
	end := 0
	for _, t := range l {
		if t.At+t.Long > end {
			end = t.At + t.Long
		}
	}
	var out []api.Tone
	for _, t := range l {
		var err api.Errno
		if c.Back {
			t.At = end - t.At - t.Long
		}
		t.At *= c.Slow
		t.Long *= c.Slow
		if c.Mirror {
			if t.Pitch, err = pitch.Mirror(t.Pitch, c.Axis); err != api.OK {
				return nil, err
			}
		}
		if t.Pitch, err = pitch.Move(t.Pitch, c.By); err != api.OK {
			return nil, err
		}
		t.At += c.Delay
		if t.At > 1<<20 || t.Long > 1<<20 {
			return nil, api.ErrMuch
		}
		out = append(out, t)
	}
	return ordered(out), api.OK
}

// anyLine is a right line of n tones, many of them at one place, with pitches so many octaves from octave 4 at most.
func anyLine(by *rand.Rand, n, far int) []api.Tone {
	var out []api.Tone
	for range n {
		p := at(by.Intn(7), by.Intn(7)-3, 4+by.Intn(2*far+1)-far)
		out = append(out, tone(by.Intn(6), 1+by.Intn(4), p))
	}
	return ordered(out)
}

func anyChange(by *rand.Rand) api.Change {
	c := api.Change{Back: by.Intn(2) == 0, Slow: 1 + by.Intn(16), Delay: by.Intn(20)}
	if c.Mirror = by.Intn(2) == 0; c.Mirror {
		c.Axis = at(by.Intn(7), by.Intn(3)-1, 4)
	}
	switch by.Intn(4) {
	case 0:
		c.By = iv(by.Intn(15)-7, by.Intn(25)-12)
	case 1:
		c.By = iv(4, 7)
	case 2:
		c.By = iv(-7, -12)
	}
	return c
}

func isLine(t *testing.T, name string, got []api.Tone, err api.Errno, want []api.Tone, wantErr api.Errno) {
	t.Helper()
	if !slices.Equal(got, want) || err != wantErr {
		t.Errorf("%s: %v %d, not %v %d", name, got, err, want, wantErr)
	}
}

func TestC1Right(t *testing.T) {
	for name, l := range map[string][]api.Tone{
		"nil":                 nil,
		"empty":               {},
		"a chord in it":       theme(),
		"the least":           {tone(0, 1, at(0, -3, -12))},
		"the greatest":        {tone(api.MaxTick, api.MaxTick, at(6, 3, 12))},
		"the same twice":      same(tone(3, 2, c4), 2),
		"as many as may be":   same(tone(3, 2, c4), api.MaxTones),
		"later, though short": {tone(3, 9, g4), tone(4, 1, c4)},
	} {
		if err := canon.Wrong(l); err != api.OK {
			t.Errorf("%s: %d", name, err)
		}
	}
}

func TestC1Wrong(t *testing.T) {
	for name, x := range wrongLines() {
		if err := canon.Wrong(x.l); err != x.want {
			t.Errorf("%s: %d, not %d", name, err, x.want)
		}
		canon.End(x.l) // of such a line anything, but it comes back
	}
}

type wrongLine struct {
	l    []api.Tone
	want api.Errno
}

// wrongLines: of several things that are wrong the first one is told, tone by tone.
func wrongLines() map[string]wrongLine {
	ok := tone(5, 1, c4)
	far := at(0, 0, 13)
	return map[string]wrongLine{
		"one too many":               {same(ok, api.MaxTones+1), api.ErrMany},
		"too many, and none right":   {make([]api.Tone, api.MaxTones+1), api.ErrMany},
		"noughts":                    {[]api.Tone{{}}, api.ErrRange},
		"ahead of 0":                 {[]api.Tone{tone(-1, 1, c4)}, api.ErrRange},
		"far ahead of 0":             {[]api.Tone{tone(math.MinInt, 1, c4)}, api.ErrRange},
		"too late":                   {[]api.Tone{tone(api.MaxTick+1, 1, c4)}, api.ErrRange},
		"far too late":               {[]api.Tone{tone(math.MaxInt, 1, c4)}, api.ErrRange},
		"no length":                  {[]api.Tone{tone(0, 0, c4)}, api.ErrRange},
		"a length below 0":           {[]api.Tone{tone(0, math.MinInt, c4)}, api.ErrRange},
		"too long":                   {[]api.Tone{tone(0, api.MaxTick+1, c4)}, api.ErrRange},
		"far too long":               {[]api.Tone{tone(math.MaxInt, math.MaxInt, c4)}, api.ErrRange},
		"no letter":                  {[]api.Tone{tone(0, 1, at(7, 0, 4))}, api.ErrForm},
		"too many signs":             {[]api.Tone{tone(0, 1, at(0, -4, 4))}, api.ErrForm},
		"no octave":                  {[]api.Tone{ok, tone(6, 1, far)}, api.ErrForm},
		"too long, no octave":        {[]api.Tone{tone(0, api.MaxTick+1, far)}, api.ErrRange},
		"no octave, out of order":    {[]api.Tone{ok, tone(4, 1, far)}, api.ErrForm},
		"no length, out of order":    {[]api.Tone{ok, tone(4, 0, c4)}, api.ErrRange},
		"no octave, then no length":  {[]api.Tone{tone(0, 1, far), tone(1, 0, c4)}, api.ErrForm},
		"out of order, then no tone": {[]api.Tone{ok, tone(4, 1, c4), {}}, api.ErrFit},
		"out of order at the end":    {append(same(ok, 9), tone(4, 1, c4)), api.ErrFit},
	}
}

// TestC1Order: each part of a tone is asked only where all parts ahead of it are the same.
func TestC1Order(t *testing.T) {
	for _, x := range [][2]api.Tone{
		{tone(3, 9, at(6, 3, 5)), tone(4, 1, at(0, -3, 4))},
		{tone(3, 8, at(6, 3, 5)), tone(3, 9, at(0, -3, 4))},
		{tone(3, 8, at(6, 3, 4)), tone(3, 8, at(0, -3, 5))},
		{tone(3, 8, at(0, 0, -2)), tone(3, 8, at(0, 0, -1))},
		{tone(3, 8, at(5, 3, 4)), tone(3, 8, at(6, -3, 4))},
		{tone(3, 8, at(5, -1, 4)), tone(3, 8, at(5, 0, 4))},
	} {
		if err := canon.Wrong([]api.Tone{x[0], x[1]}); err != api.OK {
			t.Errorf("%v: %d", x, err)
		}
		if err := canon.Wrong([]api.Tone{x[1], x[0]}); err != api.ErrFit {
			t.Errorf("%v turned round: %d", x, err)
		}
	}
}

func TestC1OrderOfAll(t *testing.T) {
	by := rand.New(rand.NewSource(1))
	for range 5000 {
		l := anyLine(by, 2+by.Intn(4), 1)
		by.Shuffle(len(l), func(i, j int) { l[i], l[j] = l[j], l[i] })
		want := api.OK
		if !slices.Equal(l, ordered(l)) {
			want = api.ErrFit
		}
		if err := canon.Wrong(l); err != want {
			t.Fatalf("%v: %d, not %d", l, err, want)
		}
	}
}

func TestC1End(t *testing.T) {
	for name, x := range map[string]struct {
		l    []api.Tone
		want int
	}{
		"nil":           {nil, 0},
		"empty":         {[]api.Tone{}, 0},
		"the last tone": {theme()[1:], 11},
		"the first one": {theme(), 20},
		"the latest":    {[]api.Tone{tone(api.MaxTick, api.MaxTick, c4)}, 2 * api.MaxTick},
	} {
		if end := canon.End(x.l); end != x.want {
			t.Errorf("%s: %d, not %d", name, end, x.want)
		}
	}
}

func TestC2Examples(t *testing.T) {
	two := []api.Tone{tone(0, 1, c4), tone(1, 1, d4)}
	for name, x := range map[string]struct {
		c       api.Change
		l, want []api.Tone
	}{
		"nothing":         {api.Change{Slow: 1}, theme(), theme()},
		"no tones":        {api.Change{Slow: 1}, nil, nil},
		"back to front":   {api.Change{Slow: 1, Back: true}, two, []api.Tone{tone(0, 1, d4), tone(1, 1, c4)}},
		"back, from 0 on": {api.Change{Slow: 1, Back: true}, []api.Tone{tone(7, 2, c4), tone(8, 5, d4)}, []api.Tone{tone(0, 5, d4), tone(4, 2, c4)}},
		"back, one lasts": {api.Change{Slow: 1, Back: true}, theme(), []api.Tone{tone(0, 20, c4), tone(9, 5, d4), tone(14, 2, e4), tone(14, 2, g4)}},
		"slower":          {api.Change{Slow: 3}, []api.Tone{tone(2, 5, c4)}, []api.Tone{tone(6, 15, c4)}},
		"slower, back":    {api.Change{Slow: 3, Back: true}, []api.Tone{tone(2, 5, c4), tone(4, 4, d4)}, []api.Tone{tone(0, 12, d4), tone(3, 15, c4)}},
		"slower, later":   {api.Change{Slow: 3, Delay: 4}, []api.Tone{tone(2, 5, c4)}, []api.Tone{tone(10, 15, c4)}},
		"back, later":     {api.Change{Slow: 1, Back: true, Delay: 4}, two, []api.Tone{tone(4, 1, d4), tone(5, 1, c4)}},
		"mirrored":        {api.Change{Slow: 1, Mirror: true, Axis: e4}, []api.Tone{tone(0, 1, c4)}, []api.Tone{tone(0, 1, at(4, 1, 4))}},
		"a chord turned":  {api.Change{Slow: 1, Mirror: true, Axis: c4}, theme()[1:3], []api.Tone{tone(4, 2, at(3, 0, 3)), tone(4, 2, at(5, -1, 3))}},
		"moved":           {api.Change{Slow: 1, By: iv(2, 3)}, []api.Tone{tone(0, 1, e4)}, []api.Tone{tone(0, 1, g4)}},
		"then moved":      {api.Change{Slow: 1, Mirror: true, Axis: c4, By: iv(2, 3)}, []api.Tone{tone(0, 1, d4)}, []api.Tone{tone(0, 1, at(1, -1, 4))}},
		"an axis unasked": {api.Change{Slow: 1, Axis: at(9, 9, 99)}, two, two},
		"the same twice":  {api.Change{Slow: 2, By: iv(1, 2)}, same(tone(1, 1, c4), 3), same(tone(2, 2, d4), 3)},
		"signs that part": {api.Change{Slow: 1, Mirror: true, Axis: c4}, []api.Tone{tone(0, 1, at(0, -1, 4)), tone(0, 1, at(0, 1, 4))}, []api.Tone{tone(0, 1, at(0, -1, 4)), tone(0, 1, at(0, 1, 4))}},
		"most signs":      {api.Change{Slow: 1, Mirror: true, Axis: c4}, []api.Tone{tone(0, 1, at(0, 3, 4))}, []api.Tone{tone(0, 1, at(0, -3, 4))}},
	} {
		got, err := canon.Apply(x.c, x.l)
		isLine(t, name, got, err, x.want, api.OK)
	}
}

func TestC2Edges(t *testing.T) {
	most := api.MaxTick
	for name, x := range map[string]struct {
		c    api.Change
		l    []api.Tone
		want []api.Tone
		err  api.Errno
	}{
		"the slowest":       {api.Change{Slow: 16}, []api.Tone{tone(1, 2, c4)}, []api.Tone{tone(16, 32, c4)}, api.OK},
		"the latest":        {api.Change{Slow: 1, Delay: most}, []api.Tone{tone(0, 2, c4)}, []api.Tone{tone(most, 2, c4)}, api.OK},
		"as late as may be": {api.Change{Slow: 2, Delay: 2}, []api.Tone{tone(most/2-1, 2, c4)}, []api.Tone{tone(most, 4, c4)}, api.OK},
		"one later":         {api.Change{Slow: 2, Delay: 3}, []api.Tone{tone(most/2-1, 2, c4)}, nil, api.ErrMuch},
		"too late":          {api.Change{Slow: 1, Delay: most}, []api.Tone{tone(1, 2, c4)}, nil, api.ErrMuch},
		"as long as may be": {api.Change{Slow: 16}, []api.Tone{tone(0, most/16, c4)}, []api.Tone{tone(0, most, c4)}, api.OK},
		"one longer":        {api.Change{Slow: 16}, []api.Tone{tone(0, most/16+1, c4)}, nil, api.ErrMuch},
		"late and long":     {api.Change{Slow: 16, Delay: most}, []api.Tone{tone(most, most, c4)}, nil, api.ErrMuch},
		"an end beyond":     {api.Change{Slow: 1}, []api.Tone{tone(most, most, c4)}, []api.Tone{tone(most, most, c4)}, api.OK},
		"back from beyond":  {api.Change{Slow: 1, Back: true}, []api.Tone{tone(most, most, c4)}, []api.Tone{tone(0, most, c4)}, api.OK},
		"back to beyond":    {api.Change{Slow: 1, Back: true}, []api.Tone{tone(0, 1, c4), tone(most, most, d4)}, nil, api.ErrMuch},
		"back just within":  {api.Change{Slow: 1, Back: true}, []api.Tone{tone(0, most, c4), tone(most, most, d4)}, []api.Tone{tone(0, most, d4), tone(most, most, c4)}, api.OK},
	} {
		got, err := canon.Apply(x.c, x.l)
		isLine(t, name, got, err, x.want, x.err)
	}
}

func TestC2WrongLine(t *testing.T) {
	for name, x := range wrongLines() {
		for _, c := range []api.Change{{Slow: 1}, {}, {Slow: 1, Delay: -1}, {Slow: 1, Mirror: true, Axis: at(7, 0, 0)}} {
			got, err := canon.Apply(c, x.l)
			isLine(t, name, got, err, nil, x.want)
		}
	}
}

// TestC2WrongChange: Slow and Delay are asked even where there are no tones, the rest tone by tone.
func TestC2WrongChange(t *testing.T) {
	wrongAxis := api.Change{Slow: 1, Mirror: true, Axis: at(7, 0, 4)}
	for _, l := range [][]api.Tone{nil, theme()} {
		for _, n := range []int{math.MinInt, -1, 0, 17, math.MaxInt} {
			c := wrongAxis
			c.Slow = n
			got, err := canon.Apply(c, l)
			isLine(t, "slow", got, err, nil, api.ErrRange)
		}
		for _, n := range []int{math.MinInt, -1, api.MaxTick + 1, math.MaxInt} {
			c := wrongAxis
			c.Delay = n
			got, err := canon.Apply(c, l)
			isLine(t, "delay", got, err, nil, api.ErrRange)
		}
	}
	for _, c := range []api.Change{wrongAxis, {Slow: 1, By: iv(201, 0)}, {Slow: 16, Delay: api.MaxTick, By: iv(0, math.MinInt)}} {
		got, err := canon.Apply(c, nil)
		isLine(t, "no tones", got, err, nil, api.OK)
	}
}

// TestC2FirstError: tone by tone, and of each tone the mirror, the move, the time.
func TestC2FirstError(t *testing.T) {
	high := at(0, 0, 12)
	late := tone(1, 1, c4)
	low := at(0, 0, -12)
	for name, x := range map[string]struct {
		c    api.Change
		l    []api.Tone
		want api.Errno
	}{
		"a wrong axis":              {api.Change{Slow: 1, Mirror: true, Axis: at(7, 0, 4)}, theme(), api.ErrForm},
		"no pitch so far":           {api.Change{Slow: 1, Mirror: true, Axis: high}, theme(), api.ErrRange},
		"an interval out of bounds": {api.Change{Slow: 1, By: iv(201, 0)}, theme(), api.ErrRange},
		"no such interval from it":  {api.Change{Slow: 1, By: iv(1, 9)}, theme(), api.ErrRange},
		"the mirror's, then late":   {api.Change{Slow: 1, Mirror: true, Axis: at(0, 4, 4), Delay: api.MaxTick}, []api.Tone{late}, api.ErrForm},
		"the mirror's, then moved":  {api.Change{Slow: 1, Mirror: true, Axis: at(0, 4, 4), By: iv(0, 9)}, []api.Tone{late}, api.ErrForm},
		"moved, then late":          {api.Change{Slow: 1, By: iv(0, 9), Delay: api.MaxTick}, []api.Tone{late}, api.ErrRange},
		"late, then moved":          {api.Change{Slow: 1, By: iv(7, 12), Delay: api.MaxTick}, []api.Tone{late, tone(2, 1, high)}, api.ErrMuch},
		"moved, then a late one":    {api.Change{Slow: 1, By: iv(-7, -12), Delay: api.MaxTick}, []api.Tone{tone(0, 1, low), late}, api.ErrRange},
		"out midway, and back":      {api.Change{Slow: 1, Mirror: true, Axis: c4, By: iv(-70, -120)}, []api.Tone{tone(0, 1, low)}, api.ErrRange},
		"in order of what came in":  {api.Change{Slow: 1, Back: true, By: iv(7, 12), Delay: api.MaxTick}, []api.Tone{tone(0, 1, c4), tone(1, 1, high)}, api.ErrMuch},
	} {
		got, err := canon.Apply(x.c, x.l)
		isLine(t, name, got, err, nil, x.want)
	}
}

func TestC2AsItIsSaid(t *testing.T) {
	by := rand.New(rand.NewSource(2))
	made := 0
	for range 20000 {
		l := anyLine(by, by.Intn(6), 1)
		c := anyChange(by)
		want, wantErr := applied(c, l)
		got, err := canon.Apply(c, l)
		if !slices.Equal(got, want) || err != wantErr {
			t.Fatalf("%v of %v: %v %d, not %v %d", c, l, got, err, want, wantErr)
		}
		if err == api.OK && len(l) > 1 {
			made++
			if wrong := canon.Wrong(got); wrong != api.OK {
				t.Fatalf("%v of %v: %v is wrong: %d", c, l, got, wrong)
			}
		}
	}
	if made < 2000 {
		t.Errorf("only %d lines came out", made)
	}
}

func TestC2AsManyAsMayBe(t *testing.T) {
	by := rand.New(rand.NewSource(3))
	l := anyLine(by, api.MaxTones, 3)
	for i := range l {
		l[i].Pitch.Alter = 0
	}
	l = ordered(l)
	c := api.Change{Back: true, Slow: 5, Mirror: true, Axis: c4, By: iv(4, 7), Delay: 1000}
	want, wantErr := applied(c, l)
	got, err := canon.Apply(c, l)
	isLine(t, "all", got, err, want, wantErr)
	if err != api.OK || len(got) != api.MaxTones {
		t.Errorf("%d tones, %d", len(got), err)
	}
}

// TestC2BackAndBack: twice turned round is as it was, where a line begins at 0.
func TestC2BackAndBack(t *testing.T) {
	once, err := canon.Apply(api.Change{Slow: 1, Back: true, Mirror: true, Axis: d4}, theme())
	if err != api.OK {
		t.Fatal(err)
	}
	twice, err := canon.Apply(api.Change{Slow: 1, Back: true, Mirror: true, Axis: d4}, once)
	isLine(t, "twice", twice, err, theme(), api.OK)
}

func isFollow(t *testing.T, name string, lead, l []api.Tone, delay int, by api.Interval, want api.Errno) {
	t.Helper()
	d, i, err := canon.Follows(lead, l)
	if d != delay || i != by || err != want {
		t.Errorf("%s: %d %v %d, not %d %v %d", name, d, i, err, delay, by, want)
	}
}

func TestC3Examples(t *testing.T) {
	none := iv(0, 0)
	short := []api.Tone{tone(3, 1, c4), tone(4, 1, e4)}
	isFollow(t, "itself", theme(), theme(), 0, none, api.OK)
	for name, x := range map[string]struct {
		lead, l []api.Tone
		delay   int
		by      api.Interval
		err     api.Errno
	}{
		"a fifth higher, later":   {short, []api.Tone{tone(10, 1, g4), tone(11, 1, at(6, 0, 4))}, 7, iv(4, 7), api.OK},
		"lower":                   {short, []api.Tone{tone(3, 1, at(0, 0, 3)), tone(4, 1, at(2, 0, 3))}, 0, iv(-7, -12), api.OK},
		"by signs alone":          {short, []api.Tone{tone(3, 1, at(0, 1, 4)), tone(4, 1, at(2, 1, 4))}, 0, iv(0, 1), api.OK},
		"an answer with a third":  {short, []api.Tone{tone(10, 1, g4), tone(11, 1, at(6, -1, 4))}, 0, none, api.ErrNone},
		"written otherwise":       {short, []api.Tone{tone(3, 1, c4), tone(4, 1, at(3, -1, 4))}, 0, none, api.ErrNone},
		"ahead of it":             {short, []api.Tone{tone(2, 1, c4), tone(3, 1, e4)}, 0, none, api.ErrNone},
		"another rhythm":          {short, []api.Tone{tone(3, 1, c4), tone(5, 1, e4)}, 0, none, api.ErrNone},
		"other lengths":           {short, []api.Tone{tone(3, 1, c4), tone(4, 2, e4)}, 0, none, api.ErrNone},
		"the first one longer":    {short, []api.Tone{tone(3, 2, c4), tone(4, 1, e4)}, 0, none, api.ErrNone},
		"slower":                  {short, []api.Tone{tone(6, 2, c4), tone(8, 2, e4)}, 0, none, api.ErrNone},
		"one less":                {short, short[:1], 0, none, api.ErrNone},
		"one more":                {short[:1], short, 0, none, api.ErrNone},
		"nobody leads":            {nil, short, 0, none, api.ErrNone},
		"nobody follows":          {short, nil, 0, none, api.ErrNone},
		"nobody at all":           {nil, []api.Tone{}, 0, none, api.ErrNone},
		"from end to end":         {[]api.Tone{tone(0, 1, at(0, -3, -12))}, []api.Tone{tone(api.MaxTick, 1, at(6, 3, 12))}, api.MaxTick, iv(174, 305), api.OK},
		"from end to end, down":   {[]api.Tone{tone(0, 1, at(6, 3, 12))}, []api.Tone{tone(0, 1, at(0, -3, -12))}, 0, iv(-174, -305), api.OK},
		"a tone too many signs":   {[]api.Tone{tone(0, 1, c4), tone(1, 1, at(0, 3, 4))}, []api.Tone{tone(0, 1, at(0, 1, 4)), tone(1, 1, at(0, 3, 4))}, 0, none, api.ErrNone},
		"the same tone again":     {same(tone(0, 1, c4), 3), same(tone(5, 1, d4), 3), 5, iv(1, 2), api.OK},
		"back to front, the same": {[]api.Tone{tone(0, 1, c4), tone(1, 1, c4)}, []api.Tone{tone(0, 1, c4), tone(1, 1, c4)}, 0, none, api.OK},
	} {
		isFollow(t, name, x.lead, x.l, x.delay, x.by, x.err)
	}
}

func TestC3Wrong(t *testing.T) {
	many := same(tone(0, 1, c4), api.MaxTones+1)
	for name, x := range wrongLines() {
		isFollow(t, name+", leads", x.l, theme(), 0, iv(0, 0), x.want)
		isFollow(t, name+", leads nobody", x.l, nil, 0, iv(0, 0), x.want)
		isFollow(t, name+", leads many", x.l, many, 0, iv(0, 0), x.want)
		isFollow(t, name+", follows", theme(), x.l, 0, iv(0, 0), x.want)
		isFollow(t, name+", follows nobody", nil, x.l, 0, iv(0, 0), x.want)
		isFollow(t, name+", follows many", many, x.l, 0, iv(0, 0), api.ErrMany)
	}
}

// followed tries every tone of l as the one that the first of lead has become.
func followed(lead, l []api.Tone) (int, api.Interval, api.Errno) {
	if len(lead) == 0 {
		return 0, api.Interval{}, api.ErrNone
	}
	for _, t := range l {
		by, _ := pitch.Between(lead[0].Pitch, t.Pitch)
		delay := t.At - lead[0].At
		if made, err := applied(api.Change{Slow: 1, By: by, Delay: delay}, lead); err == api.OK && slices.Equal(made, l) {
			return delay, by, api.OK
		}
	}
	return 0, api.Interval{}, api.ErrNone
}

func TestC3AsItIsSaid(t *testing.T) {
	by := rand.New(rand.NewSource(4))
	found, none := 0, 0
	for range 20000 {
		lead := anyLine(by, by.Intn(6), 1)
		c := anyChange(by)
		if by.Intn(3) > 0 {
			c.Slow, c.Back, c.Mirror = 1, false, false
		}
		l, err := canon.Apply(c, lead)
		if err != api.OK {
			continue
		}
		if len(l) > 0 && by.Intn(3) == 0 {
			l[by.Intn(len(l))].Pitch.Alter = by.Intn(7) - 3
			l = ordered(l)
		}
		delay, i, want := followed(lead, l)
		isFollow(t, "any", lead, l, delay, i, want)
		if want == api.OK {
			found++
		} else {
			none++
		}
	}
	if found < 1000 || none < 1000 {
		t.Errorf("%d follow, %d do not", found, none)
	}
}

// TestE2OnlyRead: neither lines nor the room behind them are changed, and what comes out is new memory.
func TestE2OnlyRead(t *testing.T) {
	all := append(theme(), tone(-1, -1, c4), tone(-2, -2, d4))
	kept := slices.Clone(all)
	l := all[:4]
	c := api.Change{Slow: 1, Back: true, Mirror: true, Axis: c4}
	got, err := canon.Apply(c, l)
	want, _ := applied(c, theme())
	isLine(t, "back", got, err, want, api.OK)
	canon.Wrong(l)
	canon.End(l)
	canon.Follows(l, all[1:4])
	plain, _ := canon.Apply(api.Change{Slow: 1}, l)
	if !slices.Equal(all, kept) {
		t.Errorf("%v is not %v any more", all, kept)
	}
	again, _ := canon.Apply(c, l)
	for i := range all {
		all[i] = api.Tone{}
	}
	isLine(t, "kept", got, api.OK, want, api.OK)
	isLine(t, "plain", plain, api.OK, theme(), api.OK)
	clear(got[:cap(got)])
	isLine(t, "again", again, api.OK, want, api.OK)
}
