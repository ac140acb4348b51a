package score_test

import (
	"fmt"
	"math"
	"math/rand"
	"reflect"
	"slices"
	"strings"
	"testing"

	"cantus/api"
	"cantus/score"
)

var (
	c4 = api.Pitch{Octave: 4}
	e4 = api.Pitch{Letter: 2, Octave: 4}
)

func note(l ...api.Pitch) api.Item {
	return api.Item{Kind: api.ItemNote, Share: 1, Pitches: l}
}

func sung(lyric string, l ...api.Pitch) api.Item {
	it := note(l...)
	it.Lyric = lyric
	return it
}

func rest() api.Item { return api.Item{Kind: api.ItemRest, Share: 1} }

func tie() api.Item { return api.Item{Kind: api.ItemTie, Share: 1} }

func group(kids ...api.Item) api.Item {
	return api.Item{Kind: api.ItemGroup, Share: 1, Kids: kids}
}

func moved(steps, halves int, kids ...api.Item) api.Item {
	return api.Item{Kind: api.ItemMoved, Share: 1, By: api.Interval{Steps: steps, Halves: halves}, Kids: kids}
}

func times(share int, it api.Item) api.Item {
	it.Share = share
	return it
}

func bar(up, down int, items ...api.Item) api.Bar {
	return api.Bar{Up: up, Down: down, Items: items}
}

// piece is one voice.
func piece(bars ...api.Bar) []api.Voice {
	return []api.Voice{{Name: "a", Bars: bars}}
}

// tower is so many items, each the only kid of the one above it.
func tower(levels int, top api.Item) api.Item {
	for range levels - 1 {
		top = group(top)
	}
	return top
}

func rests(n int) []api.Item { return slices.Repeat([]api.Item{rest()}, n) }

// isWrong: every call tells what Wrong does, and nothing else.
func isWrong(t *testing.T, name string, l []api.Voice, want api.Errno) {
	t.Helper()
	if err := score.Wrong(l); err != want {
		t.Errorf("%s: %d, not %d", name, err, want)
	}
	if want == api.OK {
		return
	}
	if s, err := score.Print(l); s != "" || err != want {
		t.Errorf("%s: print %.40q %d, not %d", name, s, err, want)
	}
	if n, err := score.Notes(l); len(n) != 0 || err != want {
		t.Errorf("%s: notes %d %d, not %d", name, len(n), err, want)
	}
}

func rightItems() map[string]api.Item {
	return map[string]api.Item{
		"a note":               note(c4),
		"the greatest chord":   note(slices.Repeat([]api.Pitch{e4}, api.MaxChord)...),
		"the highest pitch":    note(api.Pitch{Letter: 6, Alter: 3, Octave: 12}),
		"the lowest pitch":     note(api.Pitch{Letter: 0, Alter: -3, Octave: -12}),
		"a note with a lyric":  sung("la", c4, e4),
		"empty kids":           {Kind: api.ItemNote, Share: 1, Pitches: []api.Pitch{c4}, Kids: []api.Item{}},
		"a rest":               times(api.MaxShare, rest()),
		"a rest, empty lists":  {Kind: api.ItemRest, Share: 1, Pitches: []api.Pitch{}, Kids: []api.Item{}},
		"a tie":                tie(),
		"a group":              group(note(c4), tie(), times(7, rest())),
		"a group in a group":   times(2, group(group(group(tie())))),
		"moved up":             moved(4, 7, note(c4)),
		"moved down":           moved(-2, -3, note(c4), rest()),
		"moved by nothing":     moved(0, 0, rest()),
		"moved far":            moved(200, 343, rest()),
		"moved, most signs":    moved(0, 6, rest()),
		"moved down, by signs": moved(0, -6, rest()),
	}
}

func wrongItems() map[string]api.Item {
	out := map[string]api.Item{
		"nothing":           {},
		"kind 0":            {Share: 1},
		"kind 6":            {Kind: 6, Share: 1},
		"kind -1":           {Kind: -1, Share: 1},
		"kind -1 with kids": {Kind: -1, Share: 1, Kids: rests(1)},
		"the least kind":    {Kind: math.MinInt, Share: 1},
		"the greatest kind": {Kind: math.MaxInt, Share: 1},
		"a chord of none":   note(),
		"too great a chord": note(slices.Repeat([]api.Pitch{c4}, api.MaxChord+1)...),
		"a wrong pitch":     note(api.Pitch{Letter: 7}),
		"a wrong second":    note(c4, api.Pitch{Octave: 13}),
		"a wrong last":      note(append(slices.Repeat([]api.Pitch{c4}, api.MaxChord-1), api.Pitch{Alter: math.MinInt})...),
		"a group of none":   group(),
		"an empty group":    {Kind: api.ItemGroup, Share: 1, Kids: []api.Item{}},
		"moved, none":       moved(4, 7),
		"no name":           moved(0, 7, rest()),
		"no name either":    moved(1, -6, rest()),
		"too many steps":    moved(201, 344, rest()),
		"the least steps":   moved(math.MinInt, math.MinInt, rest()),
		"the most halves":   moved(0, math.MaxInt, rest()),
		"a wrong kid":       group(rest(), note()),
		"a wrong kid's kid": group(rest(), moved(0, 0, rest(), group())),
	}
	for _, share := range []int{0, -1, api.MaxShare + 1, math.MinInt, math.MaxInt} {
		for name, it := range rightItems() {
			out[fmt.Sprint(name, ", share ", share)] = times(share, it)
		}
	}
	// What a kind doesn't name must be empty.
	for name, it := range rightItems() {
		if it.Kind != api.ItemNote {
			a, b := it, it
			a.Pitches, b.Lyric = []api.Pitch{c4}, "x"
			out[name+" and a pitch"], out[name+" and a lyric"] = a, b
		}
		if it.Kind != api.ItemMoved {
			a, b := it, it
			a.By.Steps, b.By.Halves = 1, -1
			out[name+" and steps"], out[name+" and halves"] = a, b
		}
		if it.Kind != api.ItemGroup && it.Kind != api.ItemMoved {
			it.Kids = rests(1)
			out[name+" and a kid"] = it
		}
	}
	return out
}

func TestM1Items(t *testing.T) {
	for name, it := range rightItems() {
		isWrong(t, name, piece(bar(3, 4, it)), api.OK)
		isWrong(t, name+" as a kid", piece(bar(3, 4, rest(), moved(4, 7, rest(), it))), api.OK)
	}
	for name, it := range wrongItems() {
		isWrong(t, name, piece(bar(3, 4, it)), api.ErrForm)
		isWrong(t, name+" behind others", piece(bar(3, 4, rest(), it, rest())), api.ErrForm)
		isWrong(t, name+" as a kid", piece(bar(1, 1, rest()), bar(3, 4, rest(), moved(4, 7, group(it)), rest())), api.ErrForm)
	}
}

func rightLyrics() []string {
	out := []string{" ", "  ", "a", "lä", "歌 𝄞", "~[]|*<>/", "\\n", "'", "\u0080", "\u009f", "\u00a0", "\ufffd", "\ufeff", "\U0010ffff", "\u2028", "\ud7ff", "\ue000", "~"}
	for _, r := range []string{"x", "é", "歌", "𝄞"} {
		out = append(out, strings.Repeat(r, api.MaxLyric))
	}
	return out
}

func wrongLyrics() []string {
	out := []string{`"`, `a"b`, "\x7f", "ab\x7f", "\xff", "a\x80", "\xc3", "é\xc3", "\xed\xa0\x80", "\xf4\x90\x80\x80", "\xc0\x80", "\xe2\x82", "\xf0\x9d\x84", "a\nb"}
	for b := range byte(' ') {
		out = append(out, string([]byte{b}), string([]byte{'a', b, 'b'}))
	}
	for _, r := range []string{"x", "é", "歌", "𝄞"} {
		out = append(out, strings.Repeat(r, api.MaxLyric+1), strings.Repeat(r, 100000), strings.Repeat(r, api.MaxLyric)+"\xff")
	}
	return out
}

func TestM1Lyrics(t *testing.T) {
	for _, lyric := range rightLyrics() {
		isWrong(t, lyric, piece(bar(1, 1, sung(lyric, c4))), api.OK)
	}
	for _, lyric := range wrongLyrics() {
		isWrong(t, lyric, piece(bar(1, 1, sung(lyric, c4))), api.ErrForm)
	}
}

func TestM2Names(t *testing.T) {
	for _, name := range []string{"a", "z", "voice", "up", "abcdefghijklmnopqrstuvwxyz", strings.Repeat("z", api.MaxName)} {
		isWrong(t, name, []api.Voice{{Name: name}}, api.OK)
	}
	for _, name := range []string{"", "A", "a1", "a b", " a", "é", "aé", "`", "{", "a\xff", "\x00", "a\n", strings.Repeat("z", api.MaxName+1), strings.Repeat("z", 1<<20)} {
		isWrong(t, name, []api.Voice{{Name: "a"}, {Name: name}}, api.ErrName)
	}
}

func TestM2Much(t *testing.T) {
	voice := api.Voice{Name: "a"}
	one := bar(1, 1, rest())
	most := group(rests(api.MaxBeats - 2)...)
	over := group(rests(api.MaxBeats - 1)...)
	for name, x := range map[string]struct {
		l    []api.Voice
		want api.Errno
	}{
		"none":                  {nil, api.OK},
		"an empty list":         {[]api.Voice{}, api.OK},
		"empty bars":            {[]api.Voice{{Name: "a", Bars: []api.Bar{}}}, api.OK},
		"most voices":           {slices.Repeat([]api.Voice{voice}, api.MaxVoices), api.OK},
		"one voice more":        {slices.Repeat([]api.Voice{voice}, api.MaxVoices+1), api.ErrMany},
		"most bars":             {piece(slices.Repeat([]api.Bar{one}, api.MaxBars)...), api.OK},
		"one bar more":          {piece(slices.Repeat([]api.Bar{one}, api.MaxBars+1)...), api.ErrMany},
		"most items":            {piece(bar(1, 1, rests(api.MaxBeats-1)...)), api.OK},
		"one item more":         {piece(bar(1, 1, rests(api.MaxBeats)...)), api.ErrForm},
		"most items, kids":      {piece(bar(1, 1, most)), api.OK},
		"one more with kids":    {piece(bar(1, 1, over)), api.ErrForm},
		"one more behind kids":  {piece(bar(1, 1, most, rest())), api.ErrForm},
		"each bar by itself":    {piece(bar(1, 1, most), bar(1, 1, most), one), api.OK},
		"most levels":           {piece(bar(1, 1, tower(api.MaxLevel-1, rest()))), api.OK},
		"one level more":        {piece(bar(1, 1, tower(api.MaxLevel, rest()))), api.ErrForm},
		"one level more, moved": {piece(bar(1, 1, rest(), moved(0, 0, tower(api.MaxLevel-1, rest())))), api.ErrForm},
		"most of both":          {piece(bar(1, 1, tower(api.MaxLevel-2, group(rests(api.MaxBeats-api.MaxLevel+1)...)))), api.OK},
		"no items":              {piece(one, bar(1, 1)), api.ErrForm},
		"empty items":           {piece(bar(1, 1, []api.Item{}...)), api.ErrForm},
		"the longest bar":       {piece(bar(api.MaxShare, 1, rest()), bar(1, api.MaxShare, rest())), api.OK},
	} {
		isWrong(t, name, x.l, x.want)
	}
	for _, n := range []int{0, -1, api.MaxShare + 1, math.MinInt, math.MaxInt} {
		isWrong(t, "up", piece(one, bar(n, 4, rest())), api.ErrRange)
		isWrong(t, "down", piece(one, bar(4, n, rest())), api.ErrRange)
	}
}

// TestM2Order: the first that is met is told, each bar whole ahead of the next one, each voice whole too.
func TestM2Order(t *testing.T) {
	form, span := bar(1, 1), bar(0, 1, rest())
	many := slices.Repeat([]api.Bar{form}, api.MaxBars+1)
	for name, x := range map[string]struct {
		l    []api.Voice
		want api.Errno
	}{
		"voices ahead of names": {make([]api.Voice, api.MaxVoices+1), api.ErrMany},
		"name ahead of bars":    {[]api.Voice{{Bars: many}}, api.ErrName},
		"bars ahead of a bar":   {[]api.Voice{{Name: "a", Bars: many}}, api.ErrMany},
		"range ahead of form":   {piece(bar(0, 1)), api.ErrRange},
		"the first bar":         {piece(form, span), api.ErrForm},
		"the first bar's range": {piece(span, form), api.ErrRange},
		"the first voice":       {[]api.Voice{{Name: "a", Bars: []api.Bar{span}}, {Bars: many}}, api.ErrRange},
		"the first name":        {[]api.Voice{{Name: "A", Bars: []api.Bar{span}}, {Name: "a", Bars: many}}, api.ErrName},
		"the second voice":      {[]api.Voice{{Name: "a"}, {Name: "b", Bars: many}, {}}, api.ErrMany},
	} {
		isWrong(t, name, x.l, x.want)
	}
}

// TestM2Round: kids that stand in themselves have levels without end.
func TestM2Round(t *testing.T) {
	for _, n := range []int{1, 2, 70} {
		kids := make([]api.Item, n)
		for i := range kids {
			kids[i] = group()
			kids[i].Kids = kids
		}
		isWrong(t, "round", piece(bar(1, 1, kids...)), api.ErrForm)
		kids[n-1] = times(2, moved(4, 7))
		kids[n-1].Kids = kids
		isWrong(t, "round, moved", piece(bar(1, 1, kids...)), api.ErrForm)
	}
	wide := rest()
	for range api.MaxLevel - 2 {
		wide = group(wide, wide)
	}
	isWrong(t, "wide", piece(bar(1, 1, wide)), api.ErrForm)
}

// somePitch is a right one.
func somePitch(r *rand.Rand) api.Pitch {
	return api.Pitch{Letter: r.Intn(7), Alter: r.Intn(7) - 3, Octave: r.Intn(25) - 12}
}

func someLyric(r *rand.Rand) string {
	runes := []rune(" abä歌𝄞~[|*\u0080\ufffd")
	var out strings.Builder
	for range 1 + r.Intn(api.MaxLyric) {
		out.WriteRune(runes[r.Intn(len(runes))])
	}
	return out.String()
}

// someItem is a right one of few levels.
func someItem(r *rand.Rand, levels int) api.Item {
	it := api.Item{Kind: 1 + r.Intn(5), Share: 1 + r.Intn(3)}
	if r.Intn(10) == 0 {
		it.Share = 1 + r.Intn(api.MaxShare)
	}
	if levels <= 1 {
		it.Kind = 1 + r.Intn(3)
	}
	switch it.Kind {
	case api.ItemNote:
		for range 1 + max(0, r.Intn(api.MaxChord*2)-api.MaxChord) {
			it.Pitches = append(it.Pitches, somePitch(r))
		}
		if r.Intn(3) == 0 {
			it.Lyric = someLyric(r)
		}
	case api.ItemMoved:
		// From 0 to 6 steps are, times two, 0 2 4 6 8 10 12 half tones: near enough that each has a name.
		steps := r.Intn(7)
		it.By = api.Interval{Steps: steps, Halves: 2*steps - min(steps, 1)*r.Intn(2)}
		if r.Intn(2) == 0 {
			it.By = api.Interval{Steps: -it.By.Steps, Halves: -it.By.Halves}
		}
	}
	if it.Kind >= api.ItemGroup {
		for range 1 + r.Intn(4) {
			it.Kids = append(it.Kids, someItem(r, levels-1))
		}
	}
	return it
}

func somePiece(r *rand.Rand) []api.Voice {
	var out []api.Voice
	for range r.Intn(4) {
		v := api.Voice{Name: strings.Repeat(string(rune('a'+r.Intn(26))), 1+r.Intn(api.MaxName))}
		for range r.Intn(4) {
			b := bar(1+r.Intn(8), 1+r.Intn(8))
			if r.Intn(10) == 0 {
				b.Down = 1 + r.Intn(api.MaxShare)
			}
			for range 1 + r.Intn(5) {
				b.Items = append(b.Items, someItem(r, 1+r.Intn(4)))
			}
			v.Bars = append(v.Bars, b)
		}
		out = append(out, v)
	}
	return out
}

func TestM2Some(t *testing.T) {
	r := rand.New(rand.NewSource(6))
	for range 5000 {
		if l := somePiece(r); score.Wrong(l) != api.OK {
			t.Fatalf("%v: %d", l, score.Wrong(l))
		}
	}
}

// TestReads: what is handed in stays as it was, the room behind it too.
func TestReads(t *testing.T) {
	fresh := func() ([]api.Voice, []api.Bar, []api.Item, []api.Pitch) {
		pitches := []api.Pitch{c4, e4, {Octave: 9}}
		items := []api.Item{sung("la", pitches[:2]...), moved(4, 7, tie(), note(pitches[:1]...)), rest(), note(e4)}
		bars := []api.Bar{bar(3, 4, items[:3]...), bar(1, 1, group(tie())), bar(9, 9)}
		return []api.Voice{{Name: "a", Bars: bars[:2]}, {Name: "B"}}, bars, items, pitches
	}
	l, bars, items, pitches := fresh()
	score.Wrong(l[:1])
	text, err := score.Print(l[:1])
	if want := "voice a\n| 3/4 <C4 E4> \"la\" up P5 [~ C4] -\n| 1/1 [~]\n"; text != want || err != api.OK {
		t.Errorf("%q %d, not %q", text, err, want)
	}
	first, err := score.Notes(l[:1])
	if err != api.OK {
		t.Errorf("%d", err)
	}
	was, wasBars, wasItems, wasPitches := fresh()
	if !reflect.DeepEqual(l, was) || !reflect.DeepEqual(bars, wasBars) || !reflect.DeepEqual(items, wasItems) || !reflect.DeepEqual(pitches, wasPitches) {
		t.Errorf("%v was %v", l, was)
	}
	kept := slices.Clone(first)
	second, _ := score.Notes(l[:1])
	clear(second[:cap(second)])
	clear(items)
	clear(pitches)
	if !slices.Equal(first, kept) {
		t.Errorf("%v was %v", first, kept)
	}
}
