package player_test

import (
	"math/big"
	"math/rand"
	"strconv"
	"strings"
	"sync"
	"testing"

	"cantus/api"
	"cantus/player"
	"cantus/score"
)

// drawer draws pieces and settings, in which all can be told.
type drawer struct{ *rand.Rand }

func (d drawer) of(l ...string) string { return l[d.Intn(len(l))] }

func (d drawer) pitch() string {
	return d.of("C", "D", "E", "F", "G", "A", "B") + d.of("", "", "♯", "♭") + d.of("2", "3", "4", "5")
}

func (d drawer) several(n int, sep string, one func() string) string {
	l := make([]string, 1+d.Intn(n))
	for i := range l {
		l[i] = one()
	}
	return strings.Join(l, sep)
}

func (d drawer) item(deep int) string {
	share := d.of("", "", "*2", "*3")
	kids := func() string { return d.several(3, " ", func() string { return d.item(deep + 1) }) }
	switch n := d.Intn(10); {
	case n < 4 || deep > 3:
		return d.pitch() + share + d.of("", " \"la\"")
	case n < 6:
		return "<" + d.several(4, " ", d.pitch) + ">" + share
	case n < 7:
		return "-" + share
	case n < 8:
		return "~" + share
	case n < 9:
		return "[" + kids() + "]" + share
	}
	return "up " + d.of("m2", "M3", "-P5", "A4", "P8") + " [" + kids() + "]" + share
}

func (d drawer) bar() string {
	return "| 1/" + strconv.Itoa(4*(1+d.Intn(16))) + " " + d.several(5, " ", func() string { return d.item(1) })
}

func (d drawer) voice() string {
	for {
		v := "voice " + d.of("a", "b") + " " + d.several(4, " ", d.bar)
		if tellable(v) {
			return v
		}
	}
}

func (d drawer) piece(voices int) string {
	var out []string
	for range voices {
		out = append(out, d.voice())
	}
	return strings.Join(out, " ")
}

// tellable: no part of a time, or of its ticks, is too large.
func tellable(text string) bool {
	piece, _ := score.Read(text)
	notes, err := score.Notes(piece)
	for _, n := range notes {
		for _, at := range []*big.Rat{ticks(n.Start), ticks(n.Start, n.Long)} {
			if at.Num().Cmp(big.NewInt(api.MaxPart)) > 0 || at.Denom().Cmp(big.NewInt(api.MaxPart)) > 0 {
				return false
			}
		}
	}
	return err == api.OK
}

func (d drawer) setting(voices int) api.Setting {
	gains := make([]int, voices)
	for i := range gains {
		gains[i] = d.Intn(1<<18) - 1<<17
	}
	marks := []api.Mark{{Pace: 1 + d.Intn(3), Ramp: d.Intn(2) == 0}}
	for at := 1 + d.Intn(300); len(marks) < 4; at += 1 + d.Intn(300) {
		marks = append(marks, api.Mark{At: at, Pace: 1 + d.Intn(3), Ramp: d.Intn(2) == 0})
	}
	return api.Setting{
		A: 400 + 50*d.Float64(), Rate: 8000 + d.Intn(40000), Seed: d.Uint32(),
		Pace: api.Frac{Up: 1, Down: 4 + d.Intn(8)}, Marks: marks, Gains: gains,
		Patch: api.Patch{
			Shape: 1 + d.Intn(4), Step: d.Uint32(), Gain: 2*d.Float64() - 1,
			Attack: d.Intn(40), Decay: d.Intn(40), Release: d.Intn(200), Sustain: d.Intn(api.One + 1),
		},
	}
}

// TestB1Drawn: pieces of all kinds sound as B1 and B2 say it sample by sample.
func TestB1Drawn(t *testing.T) {
	d := drawer{rand.New(rand.NewSource(1))}
	for range 300 {
		voices := 1 + d.Intn(5)
		s, text := d.setting(voices), d.piece(voices)
		sounds(t, text, s, text, 1+d.Intn(300), 1+d.Intn(api.MaxWorkers), soundOf(t, s, text))
	}
}

// TestB3Drawn: what comes out hangs neither on blocks nor on workers.
func TestB3Drawn(t *testing.T) {
	d := drawer{rand.New(rand.NewSource(2))}
	for _, voices := range []int{1, 2, 5, 16, 17, api.MaxVoices} {
		s, text := d.setting(voices), d.piece(voices)
		want := soundOf(t, s, text)
		for _, block := range []int{1, 2, 3, 7, 64, 199, 200, 1000, api.MaxBlock} {
			for _, workers := range []int{1, 2, 3, 8, api.MaxWorkers} {
				sounds(t, text, s, text, block, workers, want)
			}
		}
	}
	for workers := range api.MaxWorkers {
		none := with(plain(), func(s *api.Setting) { s.Gains = nil })
		sounds(t, "nobody has anything to play", none, "", 1, workers+1, nil)
	}
}

// TestB3Together: several pieces that are played at the same time know nothing of one another.
func TestB3Together(t *testing.T) {
	d := drawer{rand.New(rand.NewSource(3))}
	var all sync.WaitGroup
	for i := range 8 {
		s, text := d.setting(3), d.piece(3)
		want, fault := player.Play(s, text, 64, 1)
		if (fault != api.Fault{}) {
			t.Fatalf("%s: %v", text, fault)
		}
		all.Add(1)
		go func() {
			defer all.Done()
			for range 10 {
				if b, fault := player.Play(s, text, 50+i, 1+i); b != want || (fault != api.Fault{}) {
					t.Errorf("%s: it sounds otherwise together with others: %v", text, fault)
				}
			}
		}()
	}
	all.Wait()
}
