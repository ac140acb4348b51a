package score_test

import (
	"math/big"
	"math/rand"
	"slices"
	"strings"
	"testing"

	"cantus/api"
	"cantus/pitch"
	"cantus/score"
)

func f(up, down int) api.Frac { return api.Frac{Up: up, Down: down} }

func sounds(voice int, start, long api.Frac, name, lyric string) api.Note {
	p, fault := pitch.Read(name)
	if fault.Err != api.OK {
		panic(name)
	}
	return api.Note{Voice: voice, Start: start, Long: long, Pitch: p, Lyric: lyric}
}

func read(t *testing.T, s string) []api.Voice {
	t.Helper()
	l, fault := score.Read(s)
	if fault.Err != api.OK {
		t.Fatalf("%q: %v", s, fault)
	}
	return l
}

func TestM6Examples(t *testing.T) {
	for s, want := range map[string][]api.Note{
		"":                      nil,
		"voice a voice b":       nil,
		"voice a | 3/4 - ~ [~]": nil,
		"voice a | 6/8 C4":      {sounds(0, f(0, 1), f(3, 4), "C4", "")},
		"voice a | 1/1 C4*3 D4": {sounds(0, f(0, 1), f(3, 4), "C4", ""), sounds(0, f(3, 4), f(1, 4), "D4", "")},
		"voice a | 1/1 C4 | 1/2 D4 | 1/3 - E4": {
			sounds(0, f(0, 1), f(1, 1), "C4", ""), sounds(0, f(1, 1), f(1, 2), "D4", ""), sounds(0, f(5, 3), f(1, 6), "E4", ""),
		},
		"voice a | 3/4 C4 [D4 E4] ~": {
			sounds(0, f(0, 1), f(1, 4), "C4", ""), sounds(0, f(1, 4), f(1, 8), "D4", ""), sounds(0, f(3, 8), f(3, 8), "E4", ""),
		},
		"voice a | 1/1 <E4 C4 E4> \"la\" - C4 \"le\"": {
			sounds(0, f(0, 1), f(1, 3), "E4", "la"), sounds(0, f(0, 1), f(1, 3), "C4", "la"), sounds(0, f(0, 1), f(1, 3), "E4", "la"), sounds(0, f(2, 3), f(1, 3), "C4", "le"),
		},
		"voice a | 1/1 C4 voice b | 1/2 - D4 voice c voice d | 1/1 E4": {
			sounds(0, f(0, 1), f(1, 1), "C4", ""), sounds(1, f(1, 4), f(1, 4), "D4", ""), sounds(3, f(0, 1), f(1, 1), "E4", ""),
		},
		"voice a | 1/1 [C4 [D4 E4*2]*2] [F4]": {
			sounds(0, f(0, 1), f(1, 6), "C4", ""), sounds(0, f(1, 6), f(1, 9), "D4", ""), sounds(0, f(5, 18), f(2, 9), "E4", ""), sounds(0, f(1, 2), f(1, 2), "F4", ""),
		},
	} {
		if l, err := score.Notes(read(t, s)); !slices.Equal(l, want) || err != api.OK {
			t.Errorf("%q: %v %d, not %v", s, l, err, want)
		}
	}
}

func TestM6Ties(t *testing.T) {
	for s, want := range map[string][]api.Note{
		"voice a | 4/1 C4 ~ ~ ~":           {sounds(0, f(0, 1), f(4, 1), "C4", "")},
		"voice a | 4/1 C4 ~ - ~":           {sounds(0, f(0, 1), f(2, 1), "C4", "")},
		"voice a | 4/1 ~ C4 ~ -":           {sounds(0, f(1, 1), f(2, 1), "C4", "")},
		"voice a | 4/1 ~ ~ - ~":            nil,
		"voice a | 3/1 C4 D4 ~":            {sounds(0, f(0, 1), f(1, 1), "C4", ""), sounds(0, f(1, 1), f(2, 1), "D4", "")},
		"voice a | 1/1 C4 | 2/1 ~ | 3/1 ~": {sounds(0, f(0, 1), f(6, 1), "C4", "")},
		"voice a | 1/1 C4 | 2/1 - | 3/1 ~": {sounds(0, f(0, 1), f(1, 1), "C4", "")},
		"voice a | 1/1 C4 voice b | 1/1 ~": {sounds(0, f(0, 1), f(1, 1), "C4", "")},
		"voice a | 2/1 [C4] [~]":           {sounds(0, f(0, 1), f(2, 1), "C4", "")},
		"voice a | 2/1 [- C4] [[~ -]]":     {sounds(0, f(1, 2), f(1, 1), "C4", "")},
		"voice a | 2/1 [C4 -] ~":           {sounds(0, f(0, 1), f(1, 2), "C4", "")},
		"voice a | 2/1 C4 up P5 [~ ~*3]":   {sounds(0, f(0, 1), f(2, 1), "C4", "")},
		"voice a | 3/1 up P5 [C4] ~ D4":    {sounds(0, f(0, 1), f(2, 1), "G4", ""), sounds(0, f(2, 1), f(1, 1), "D4", "")},
		"voice a | 4/1 E4 <C4 D4> \"x\" ~*2": {
			sounds(0, f(0, 1), f(1, 1), "E4", ""), sounds(0, f(1, 1), f(3, 1), "C4", "x"), sounds(0, f(1, 1), f(3, 1), "D4", "x"),
		},
	} {
		if l, err := score.Notes(read(t, s)); !slices.Equal(l, want) || err != api.OK {
			t.Errorf("%q: %v %d, not %v", s, l, err, want)
		}
	}
}

func TestM6Moves(t *testing.T) {
	for s, want := range map[string]string{
		"up m3 [E4]":                      "G4",
		"up -m3 [G4]":                     "E4",
		"up P5 [up -m2 [C4]]":             "F♯4",
		"up P1 [C4]":                      "C4",
		"[up M3 [[up M3 [C4]]]]":          "G♯4",
		"up -P8 [up P8 [C11]]":            "C11",
		"up P8 [up -P8 [C12]]":            "C12",
		"up P5 [C12]":                     "G12",
		"up AAA1 [C4]":                    "C𝄪♯4",
		"up -AAA1 [up AAA1 [C4]]":         "C4",
		"up M2 [up M2 [up M2 [B♭3]]]":     "E4",
		"up -d2 [B4]":                     "A𝄪4",
		"up P8 [-] C4":                    "C4",
		"up P8 [- up P8 [-]] up P4 [C-1]": "F-1",
	} {
		l, err := score.Notes(read(t, "voice a | 1/1 "+s))
		if err != api.OK || len(l) != 1 {
			t.Errorf("%q: %v %d", s, l, err)
			continue
		}
		if name, _ := pitch.Print(l[0].Pitch); name != want {
			t.Errorf("%q: %s, not %s", s, name, want)
		}
	}
	// A pitch on the way that can't be written, even if the last one could.
	for _, s := range []string{"up P8 [C12]", "up -P8 [up P8 [C12]]", "up P8 [up -P8 [C-12]]", "up -AA1 [up AA1 [C♯𝄪4]]", "up A1 [<C4 C♯𝄪4>]", "- up P8 [- [up P8 [C4 C11]]]", "up AAAAAA1 [C4]", "up P201 [C4]"} {
		if l, err := score.Notes(read(t, "voice b | 1/1 D4 voice a | 1/1 "+s)); len(l) != 0 || err != api.ErrRange {
			t.Errorf("%q: %v %d", s, l, err)
		}
	}
}

// TestM6Much: 1/65536 and 1/65535 can't be added, as 65536 * 65535 is above MaxPart.
func TestM6Much(t *testing.T) {
	deep := "[C4 C4*65534]"
	tooDeep := "[[C4 C4*32768] C4*65534]"
	far := "up P8 [C12]"
	for s, want := range map[string]api.Errno{
		"| 65536/1 C4 | 65536/1 -":                         api.OK,
		"| 1/65536 C4 | 1/65535 C4":                        api.ErrMuch, // where the last bar ends
		"| 1/65536 C4 | 1/32768 C4":                        api.OK,
		"| 1/65536 - | 1/65535 -":                          api.ErrMuch,
		"| 1/65536 - | 1/65535 " + far:                     api.ErrRange, // behind the last bar's items
		"| 1/65536 - | 1/65535 - | 1/1 " + far:             api.ErrMuch,
		"| 1/65536 - | 1/1 " + deep:                        api.ErrMuch, // where C4 begins
		"| 1/1 - | 1/1 " + deep:                            api.OK,
		"| 1/65536 - | 1/1 " + far + deep:                  api.ErrRange, // item by item
		"| 1/65536 - | 1/1 " + deep + far:                  api.ErrMuch,
		"| 1/65536 - | 1/1 - up P8 [C12]*65534":            api.ErrMuch, // its time ahead of its pitches
		"| 1/65536 - | 1/1 C4 -*65534":                     api.ErrMuch, // what is silent has its time
		"| 1/65536 - | 1/1 C4 ~*65534":                     api.ErrMuch,
		"| 1/1 " + tooDeep:                                 api.ErrMuch, // a place in the bar
		"| 1/1 " + far + " | 1/1 " + tooDeep:               api.ErrRange,
		"| 1/1 " + far + tooDeep:                           api.ErrMuch, // all places of a bar ahead of its items
		"| 1/1 " + far + "[[- -*32768] -*65534]":           api.ErrMuch,
		"| 1/65536 C4 | 4/1 ~ -*3":                         api.OK,
		"| 1/65536 C4 | 1/1 ~ -*65534":                     api.ErrMuch, // how long C4 is
		"| 1/65536 - | 1/65536 C4 | 1/1 [~ - - - - -]*2 -": api.OK,
		"| 65536/65535 C4 | 1/65536 ~":                     api.ErrMuch,
		"| 65536/65535 - | 1/65536 ~":                      api.ErrMuch,
	} {
		s = "voice a " + s
		if l, err := score.Notes(read(t, s)); err != want || err != api.OK && len(l) != 0 {
			t.Errorf("%q: %v %d, not %d", s, l, err, want)
		}
		l := append(read(t, s), read(t, "voice b | 1/1 "+far)...)
		if want == api.OK {
			want = api.ErrRange
		}
		if n, err := score.Notes(l); err != want || len(n) != 0 {
			t.Errorf("%q and a voice that is wrong: %v %d, not %d", s, n, err, want)
		}
	}
}

// TestM6Whole: the greatest bars, and the longest voice.
func TestM6Whole(t *testing.T) {
	n, err := score.Notes(piece(bar(1, 1, slices.Repeat([]api.Item{note(c4)}, api.MaxBeats-1)...)))
	if len(n) != api.MaxBeats-1 || err != api.OK || n[4094].Start != f(4094, 4095) {
		t.Errorf("%d notes, %d", len(n), err)
	}
	n, err = score.Notes(piece(bar(1, 1, rest(), tower(api.MaxLevel-1, note(c4)))))
	if err != api.OK || !slices.Equal(n, []api.Note{sounds(0, f(1, 2), f(1, 2), "C4", "")}) {
		t.Errorf("%v %d", n, err)
	}
	bars := slices.Repeat([]api.Bar{bar(65536, 1, tie())}, api.MaxBars)
	bars[0] = bar(65536, 1, note(c4))
	n, err = score.Notes(piece(bars...))
	if err != api.OK || !slices.Equal(n, []api.Note{sounds(0, f(0, 1), f(1<<26, 1), "C4", "")}) {
		t.Errorf("%v %d", n, err)
	}
	if n, err = score.Notes(slices.Repeat(piece(bars...), api.MaxVoices)); len(n) != api.MaxVoices || err != api.OK || n[63].Voice != 63 {
		t.Errorf("%d notes, %d", len(n), err)
	}
}

// slowLeaf is an item without kids: where it is in its bar, and what it stands in, the innermost first.
type slowLeaf struct {
	api.Item
	start, long *big.Rat
	moves       []api.Interval
}

// leaves tells also all lengths, those of groups too.
func leaves(l []api.Item, start, long *big.Rat, moves []api.Interval) (out []slowLeaf, lengths []*big.Rat) {
	all := int64(0)
	for _, it := range l {
		all += int64(it.Share)
	}
	for _, it := range l {
		mine := new(big.Rat).Mul(long, big.NewRat(int64(it.Share), all))
		lengths = append(lengths, mine)
		if len(it.Kids) == 0 {
			out = append(out, slowLeaf{it, start, mine, moves})
		} else {
			within := moves
			if it.Kind == api.ItemMoved {
				within = append([]api.Interval{it.By}, moves...)
			}
			more, moreLengths := leaves(it.Kids, start, mine, within)
			out, lengths = append(out, more...), append(lengths, moreLengths...)
		}
		start = new(big.Rat).Add(start, mine)
	}
	return out, lengths
}

func told(r *big.Rat) (api.Frac, bool) {
	bound := big.NewInt(1 << 30)
	if r.Num().Cmp(bound) > 0 || r.Denom().Cmp(bound) > 0 {
		return api.Frac{}, false
	}
	return f(int(r.Num().Int64()), int(r.Denom().Int64())), true
}

// slowNotes is Notes of what is right, by numbers without bounds.
func slowNotes(l []api.Voice) ([]api.Note, api.Errno) {
	var out []api.Note
	for i, v := range l {
		at := new(big.Rat)
		from, ahead := 0, api.ItemRest // the notes of the item ahead begin there; a tie that makes nothing longer is as a rest
		for _, b := range v.Bars {
			long := big.NewRat(int64(b.Up), int64(b.Down))
			all, lengths := leaves(b.Items, new(big.Rat), long, nil)
			for _, leaf := range all {
				lengths = append(lengths, leaf.start)
			}
			if slices.ContainsFunc(lengths, func(r *big.Rat) bool { _, ok := told(r); return !ok }) {
				return nil, api.ErrMuch
			}
			for _, leaf := range all {
				start, ok := told(new(big.Rat).Add(at, leaf.start))
				if !ok {
					return nil, api.ErrMuch
				}
				lasts, _ := told(leaf.long)
				if leaf.Kind == api.ItemTie && ahead == api.ItemNote {
					for n := range out[from:] {
						was := out[from+n].Long
						if out[from+n].Long, ok = told(new(big.Rat).Add(big.NewRat(int64(was.Up), int64(was.Down)), leaf.long)); !ok {
							return nil, api.ErrMuch
						}
					}
					continue
				}
				from, ahead = len(out), leaf.Kind
				for _, p := range leaf.Pitches {
					for _, by := range leaf.moves {
						var err api.Errno
						if p, err = pitch.Move(p, by); err != api.OK {
							return nil, err
						}
					}
					out = append(out, api.Note{Voice: i, Start: start, Long: lasts, Pitch: p, Lyric: leaf.Lyric})
				}
			}
			if at.Add(at, long); at.Denom().Cmp(big.NewInt(1<<30)) > 0 || at.Num().Cmp(big.NewInt(1<<30)) > 0 {
				return nil, api.ErrMuch
			}
		}
	}
	return out, api.OK
}

func TestM6Some(t *testing.T) {
	r := rand.New(rand.NewSource(9))
	count := map[api.Errno]int{}
	for range 30000 {
		l := somePiece(r)
		want, wantErr := slowNotes(l)
		if n, err := score.Notes(l); !slices.Equal(n, want) || err != wantErr {
			t.Fatalf("%q: %v %d, not %v %d", slowPrint(l), n, err, want, wantErr)
		}
		count[wantErr]++
	}
	if count[api.OK] < 5000 || count[api.ErrMuch] < 1000 || count[api.ErrRange] < 1000 {
		t.Errorf("%v", count)
	}
}

// TestM6Moved: a piece that is moved is its notes moved.
func TestM6Moved(t *testing.T) {
	r := rand.New(rand.NewSource(10))
	same := 0
	for range 3000 {
		plain := piece(bar(3, 4, someItem(r, 3), someItem(r, 3)))
		by := api.Interval{Steps: 4, Halves: 7}
		up := piece(bar(3, 4, moved(4, 7, plain[0].Bars[0].Items...)))
		want, err := score.Notes(plain)
		for i := range want {
			if want[i].Pitch, err = pitch.Move(want[i].Pitch, by); err != api.OK {
				break
			}
		}
		if err != api.OK {
			continue
		}
		if n, err := score.Notes(up); !slices.Equal(n, want) || err != api.OK {
			t.Fatalf("%q: %v %d, not %v", slowPrint(up), n, err, want)
		}
		same++
	}
	if same < 1000 {
		t.Errorf("only %d", same)
	}
}

// TestM6Lyrics: each note of a chord has the whole lyric.
func TestM6Lyrics(t *testing.T) {
	lyric := strings.Repeat("𝄞", api.MaxLyric)
	n, err := score.Notes(piece(bar(1, 1, sung(lyric, slices.Repeat([]api.Pitch{c4}, api.MaxChord)...), tie())))
	if len(n) != api.MaxChord || err != api.OK {
		t.Fatalf("%v %d", n, err)
	}
	for _, x := range n {
		if x != (api.Note{Start: f(0, 1), Long: f(1, 1), Pitch: c4, Lyric: lyric}) {
			t.Errorf("%v", x)
		}
	}
}
