package score_test

import (
	"fmt"
	"math/rand"
	"reflect"
	"slices"
	"strings"
	"testing"

	"cantus/api"
	"cantus/pitch"
	"cantus/score"
)

func TestM5Examples(t *testing.T) {
	for want, l := range map[string][]api.Voice{
		"":                            nil,
		"voice a\n":                   {{Name: "a"}},
		"voice a\nvoice voice\n":      {{Name: "a"}, {Name: "voice"}},
		"voice a\n| 3/4 C4\n":         piece(bar(3, 4, note(c4))),
		"voice a\n| 6/8 C4*2 -*3 ~\n": piece(bar(6, 8, times(2, note(c4)), times(3, rest()), tie())),
		"voice a\n| 1/1 -\n| 65536/65536 ~*65536\n":                          piece(bar(1, 1, rest()), bar(api.MaxShare, api.MaxShare, times(api.MaxShare, tie()))),
		"voice a\n| 1/1 <C4 E4>*2 \"la \"\n":                                 piece(bar(1, 1, times(2, sung("la ", c4, e4)))),
		"voice a\n| 1/1 C4 \" *[~\" [C4 \"歌\" [E4]*2]*3 -\n":                 piece(bar(1, 1, sung(" *[~", c4), times(3, group(sung("歌", c4), times(2, group(note(e4))))), rest())),
		"voice a\n| 1/1 up P1 [-] up -m2 [up AAAA4 [C4 ~]*2 E4]\n":           piece(bar(1, 1, moved(0, 0, rest()), moved(-1, -1, times(2, moved(3, 9, note(c4), tie())), note(e4)))),
		"voice a\n| 1/1 <B𝄫♭-12 F𝄪♯12 G♭0>\nvoice b\n| 2/3 -\nvoice a\n":     {{Name: "a", Bars: []api.Bar{bar(1, 1, note(api.Pitch{Letter: 6, Alter: -3, Octave: -12}, api.Pitch{Letter: 3, Alter: 3, Octave: 12}, api.Pitch{Letter: 4, Alter: -1}))}}, {Name: "b", Bars: []api.Bar{bar(2, 3, rest())}}, {Name: "a"}},
		"voice a\n| 1/1 " + strings.Repeat("~ ", api.MaxBeats-2) + "~\n":     piece(bar(1, 1, slices.Repeat([]api.Item{tie()}, api.MaxBeats-1)...)),
		"voice a\n" + strings.Repeat("| 1/2 [[~]]\n", api.MaxBars):           piece(slices.Repeat([]api.Bar{bar(1, 2, group(group(tie())))}, api.MaxBars)...),
		strings.Repeat("voice a\n", api.MaxVoices):                           slices.Repeat([]api.Voice{{Name: "a"}}, api.MaxVoices),
		"voice a\n| 1/1 <" + strings.Repeat("C4 ", api.MaxChord-1) + "C4>\n": piece(bar(1, 1, note(slices.Repeat([]api.Pitch{c4}, api.MaxChord)...))),
	} {
		if s, err := score.Print(l); s != want || err != api.OK {
			t.Errorf("%.100q %d, not %.100q", s, err, want)
		}
		if back, fault := score.Read(want); !alike(back, l) || fault != (api.Fault{}) {
			t.Errorf("%.100q: %v %v", want, back, fault)
		}
	}
}

// alike holds pieces against each other; a list without entries is the same as none.
func alike(a, b []api.Voice) bool {
	return len(a) == len(b) && (len(a) == 0 || reflect.DeepEqual(a, b))
}

// longPiece has a text of so many bytes, at least some thousands.
func longPiece(size int) []api.Voice {
	// A bar of one rest has "| 1/1 -" and a line feed; each rest more adds two bytes.
	size -= len("voice a\n")
	var bars []api.Bar
	for size >= 8000 {
		bars = append(bars, bar(1, 1, rests(1997)...))
		size -= 8 + 2*1996
	}
	first := rest()
	if size%2 == 1 {
		// A flat has three bytes, so that this is five bytes more than a rest.
		first = note(api.Pitch{Alter: -1, Octave: 12})
		size -= 5
	}
	return piece(append(bars, bar(1, 1, append(rests((size-8)/2), first)...))...)
}

func TestM5Much(t *testing.T) {
	for size := api.MaxText - 5; size <= api.MaxText+5; size++ {
		l := longPiece(size)
		want := slowPrint(l)
		if len(want) != size {
			t.Fatalf("%d bytes, not %d", len(want), size)
		}
		s, err := score.Print(l)
		back, fault := score.Read(want)
		if size > api.MaxText {
			if s != "" || err != api.ErrMuch {
				t.Errorf("%d bytes: %d of them, %d", size, len(s), err)
			}
			if back != nil || fault != (api.Fault{Err: api.ErrMuch}) {
				t.Errorf("%d bytes: %d voices, %v", size, len(back), fault)
			}
			continue
		}
		if s != want || err != api.OK {
			t.Errorf("%d bytes: %d of them, %d", size, len(s), err)
		}
		if !alike(back, l) || fault != (api.Fault{}) {
			t.Errorf("%d bytes: %d voices, %v", size, len(back), fault)
		}
	}
	// The line of a voice alone may be what is too long.
	l := append(longPiece(api.MaxText-7), api.Voice{Name: "a"})
	if s, err := score.Print(l); s != "" || err != api.ErrMuch {
		t.Errorf("a voice more: %d bytes, %d", len(s), err)
	}
	l[0] = longPiece(api.MaxText - 8)[0]
	if s, err := score.Print(l); len(s) != api.MaxText || err != api.OK {
		t.Errorf("a voice more: %d bytes, %d", len(s), err)
	}
}

// TestM5Huge: a piece that is far longer than any text ends soon.
func TestM5Huge(t *testing.T) {
	long := bar(1, 1, slices.Repeat([]api.Item{sung(strings.Repeat("𝄞", api.MaxLyric), slices.Repeat([]api.Pitch{{Alter: -3, Octave: -12}}, api.MaxChord)...)}, 100)...)
	l := slices.Repeat(piece(slices.Repeat([]api.Bar{long}, api.MaxBars)...), 2)
	if s, err := score.Print(l); s != "" || err != api.ErrMuch {
		t.Errorf("%d bytes, %d", len(s), err)
	}
}

// slowPrint writes a right piece by formats.
func slowPrint(l []api.Voice) string {
	out := ""
	for _, v := range l {
		out += fmt.Sprintf("voice %s\n", v.Name)
		for _, b := range v.Bars {
			out += fmt.Sprintf("| %d/%d %s\n", b.Up, b.Down, slowItems(b.Items))
		}
	}
	return out
}

func slowItems(l []api.Item) string {
	var out []string
	for _, it := range l {
		var s string
		switch it.Kind {
		case api.ItemNote:
			s = fmt.Sprint(slowNames(it.Pitches))
			s = "<" + strings.Trim(s, "[]") + ">"
			if len(it.Pitches) == 1 {
				s = strings.Trim(s, "<>")
			}
		case api.ItemRest:
			s = "-"
		case api.ItemTie:
			s = "~"
		case api.ItemGroup:
			s = fmt.Sprintf("[%s]", slowItems(it.Kids))
		case api.ItemMoved:
			name, _ := pitch.Name(it.By)
			s = fmt.Sprintf("up %s [%s]", name, slowItems(it.Kids))
		}
		if it.Share > 1 {
			s += fmt.Sprintf("*%d", it.Share)
		}
		if it.Lyric != "" {
			s += fmt.Sprintf(` "%s"`, it.Lyric)
		}
		out = append(out, s)
	}
	return strings.Join(out, " ")
}

func slowNames(l []api.Pitch) []string {
	var out []string
	for _, p := range l {
		name, _ := pitch.Print(p)
		out = append(out, name)
	}
	return out
}

// TestM5Some: what is printed is read as it was.
func TestM5Some(t *testing.T) {
	r := rand.New(rand.NewSource(7))
	printed := 0
	for range 5000 {
		l := somePiece(r)
		want := slowPrint(l)
		s, err := score.Print(l)
		if len(want) > api.MaxText {
			if s != "" || err != api.ErrMuch {
				t.Fatalf("%d bytes: %d", len(want), err)
			}
			continue
		}
		if s != want || err != api.OK {
			t.Fatalf("%q %d, not %q", s, err, want)
		}
		if back, fault := score.Read(s); !alike(back, l) || fault != (api.Fault{}) {
			t.Fatalf("%q: %v %v, not %v", s, back, fault, l)
		}
		printed++
	}
	if printed < 4000 {
		t.Errorf("only %d are printed", printed)
	}
}
