package pitch_test

import (
	"fmt"
	"regexp"
	"strconv"
	"strings"
	"testing"

	"cantus/api"
	"cantus/pitch"
)

func TestPrint(t *testing.T) {
	for p, want := range map[api.Pitch]string{
		at(0, 0, 4): "C4", at(1, 1, 0): "D♯0", at(2, 2, -1): "E𝄪-1", at(3, 3, 12): "F𝄪♯12", at(4, -1, -12): "G♭-12", at(5, -2, 10): "A𝄫10", at(6, -3, 9): "B𝄫♭9",
	} {
		if s, err := pitch.Print(p); s != want || err != api.OK {
			t.Errorf("%v: %q %d, not %q", p, s, err, want)
		}
	}
	for _, p := range wrongPitches() {
		if s, err := pitch.Print(p); s != "" || err != api.ErrForm {
			t.Errorf("%v: %q %d", p, s, err)
		}
	}
}

func TestPrintedIsRead(t *testing.T) {
	for _, p := range rightPitches() {
		s, err := pitch.Print(p)
		if err != api.OK {
			t.Fatalf("%v: %d", p, err)
		}
		if q, fault := pitch.Read(s); q != p || fault != (api.Fault{}) {
			t.Errorf("%q: %v %v, not %v", s, q, fault, p)
		}
	}
}

func TestRead(t *testing.T) {
	for s, want := range map[string]api.Pitch{
		"C4": at(0, 0, 4), "A♮3": at(5, 0, 3), "B♮-12": at(6, 0, -12), "Bb2": at(6, -1, 2), "Gx5": at(4, 2, 5), "C#x4": at(0, 3, 4), "Cx#4": at(0, 3, 4),
		"Cbbb0": at(0, -3, 0), "C♭𝄫0": at(0, -3, 0), "C#b4": at(0, 0, 4), "C#bb4": at(0, -1, 4), "Cb#4": at(0, 0, 4), "C♯𝄫4": at(0, -1, 4), "Cbx4": at(0, 1, 4),
		"Cx𝄫4": at(0, 0, 4), "C𝄫𝄪♭♯♯12": at(0, 1, 12), "C" + strings.Repeat("#b", 5000) + "1": at(0, 0, 1), "D♯♭-9": at(1, 0, -9),
	} {
		if p, fault := pitch.Read(s); p != want || fault != (api.Fault{}) {
			t.Errorf("%.30q: %v %v, not %v", s, p, fault, want)
		}
	}
}

func TestReadFaults(t *testing.T) {
	for s, want := range map[string]api.Fault{
		"": {Err: api.ErrForm}, "H4": {Err: api.ErrForm}, "c4": {Err: api.ErrForm}, " C4": {Err: api.ErrForm}, "4": {Err: api.ErrForm}, "♯4": {Err: api.ErrForm}, "\xff": {Err: api.ErrForm}, "é4": {Err: api.ErrForm},
		"C": {Err: api.ErrForm, At: 1}, "C-": {Err: api.ErrForm, At: 1}, "C-0": {Err: api.ErrForm, At: 1}, "C04": {Err: api.ErrForm, At: 1}, "C00": {Err: api.ErrForm, At: 1}, "C+4": {Err: api.ErrForm, At: 1},
		"C4 ": {Err: api.ErrForm, At: 1}, "C4#": {Err: api.ErrForm, At: 1}, "C10000": {Err: api.ErrForm, At: 1}, "C-10000": {Err: api.ErrForm, At: 1}, "C--1": {Err: api.ErrForm, At: 1}, "C1_0": {Err: api.ErrForm, At: 1}, "C٤": {Err: api.ErrForm, At: 1}, "C-01": {Err: api.ErrForm, At: 1},
		"C13": {Err: api.ErrRange, At: 1}, "C-13": {Err: api.ErrRange, At: 1}, "C9999": {Err: api.ErrRange, At: 1}, "C-9999": {Err: api.ErrRange, At: 1}, "C♭♭13": {Err: api.ErrRange, At: 7},
		"D♮♯4": {Err: api.ErrForm, At: 4}, "D♮♮4": {Err: api.ErrForm, At: 4}, "D♯♮4": {Err: api.ErrForm, At: 4}, "D♮": {Err: api.ErrForm, At: 4}, "D♮13": {Err: api.ErrRange, At: 4},
		"C####": {Err: api.ErrRange, At: 4}, "Cxx4": {Err: api.ErrRange, At: 2}, "C♯𝄪♯": {Err: api.ErrRange, At: 8}, "C𝄫𝄫": {Err: api.ErrRange, At: 5}, "C♭♭♭♭": {Err: api.ErrRange, At: 10},
		"Cxb4": {Err: api.ErrRange, At: 2}, "C𝄪♭4": {Err: api.ErrRange, At: 5}, "C𝄫#4": {Err: api.ErrRange, At: 5}, "C##b": {Err: api.ErrRange, At: 3}, "Cbb♯": {Err: api.ErrRange, At: 3}, "C♯♯♯𝄫": {Err: api.ErrRange, At: 10},
		"C#\xff4": {Err: api.ErrForm, At: 2}, "C\xe2\x99": {Err: api.ErrForm, At: 1}, "C#X4": {Err: api.ErrForm, At: 2}, "C#B4": {Err: api.ErrForm, At: 2}, "C#\uFFFD4": {Err: api.ErrForm, At: 2},
	} {
		if p, fault := pitch.Read(s); p != (api.Pitch{}) || fault != want {
			t.Errorf("%q: %v %v, not %v", s, p, fault, want)
		}
	}
}

// TestReadEverything holds Read against a reader that goes by patterns, for all short texts of the signs that matter.
func TestReadEverything(t *testing.T) {
	signs := []string{"C", "♮", "♯", "x", "b", "𝄫", "-", "0", "1", "3", "\xe2"}
	texts := []string{""}
	for range 5 {
		next := []string{""}
		for _, s := range texts {
			for _, sign := range signs {
				next = append(next, s+sign)
			}
		}
		texts = next
	}
	for _, s := range texts {
		for _, text := range []string{s, "C" + s} {
			wantPitch, wantFault := slowRead(text)
			if p, fault := pitch.Read(text); p != wantPitch || fault != wantFault {
				t.Fatalf("%q: %v %v, not %v %v", text, p, fault, wantPitch, wantFault)
			}
		}
	}
}

var (
	aSign   = regexp.MustCompile(`^(♯|#|𝄪|x|♭|b|𝄫)`)
	aNumber = regexp.MustCompile(`^(0|-?[1-9][0-9]{0,3})$`)
)

func slowRead(s string) (api.Pitch, api.Fault) {
	if s == "" || !strings.Contains("ABCDEFG", s[:1]) {
		return api.Pitch{}, api.Fault{Err: api.ErrForm}
	}
	adds := map[string]int{"♯": 1, "#": 1, "𝄪": 2, "x": 2, "♭": -1, "b": -1, "𝄫": -2}
	at, sum := 1, 0
	if strings.HasPrefix(s[at:], "♮") {
		at += len("♮")
	} else {
		for sign := aSign.FindString(s[at:]); sign != ""; sign = aSign.FindString(s[at:]) {
			sum += adds[sign]
			if sum > 0 && adds[sign] < 0 || sum < 0 && adds[sign] > 0 || sum > 3 || sum < -3 {
				return api.Pitch{}, api.Fault{Err: api.ErrRange, At: at}
			}
			at += len(sign)
		}
	}
	if !aNumber.MatchString(s[at:]) {
		return api.Pitch{}, api.Fault{Err: api.ErrForm, At: at}
	}
	octave, _ := strconv.Atoi(s[at:])
	if octave < -12 || octave > 12 {
		return api.Pitch{}, api.Fault{Err: api.ErrRange, At: at}
	}
	return api.Pitch{Letter: strings.Index("CDEFGAB", s[:1]), Alter: sum, Octave: octave}, api.Fault{}
}

// names are those of all intervals that have one, found by writing all names that there can be.
func names() map[api.Interval]string {
	out := map[api.Interval]string{}
	size := []int{0, 2, 4, 5, 7, 9, 11}
	for steps := 0; steps <= 200; steps++ {
		plain := 12*(steps/7) + size[steps%7]
		kinds := map[string]int{"M": 0, "m": -1}
		low := -1
		if k := steps % 7; k == 0 || k == 3 || k == 4 {
			kinds, low = map[string]int{"P": 0}, 0
		}
		for n := 1; n <= 6; n++ {
			kinds[strings.Repeat("A", n)] = n
			kinds[strings.Repeat("d", n)] = low - n
		}
		for letters, m := range kinds {
			if steps == 0 && plain+m < 0 {
				continue
			}
			name := fmt.Sprint(letters, steps+1)
			out[iv(steps, plain+m)] = name
			if steps > 0 || plain+m > 0 {
				out[iv(-steps, -plain-m)] = "-" + name
			}
		}
	}
	return out
}

func TestName(t *testing.T) {
	all := names()
	for steps := -200; steps <= 200; steps++ {
		for halves := -400; halves <= 400; halves++ {
			want, ok := all[iv(steps, halves)]
			wantErr := api.OK
			if !ok {
				wantErr = api.ErrRange
			}
			if s, err := pitch.Name(iv(steps, halves)); s != want || err != wantErr {
				t.Fatalf("%d %d: %q %d, not %q %d", steps, halves, s, err, want, wantErr)
			}
		}
	}
	for _, i := range append(wrongIntervals(), iv(0, 4096), iv(0, -4096), iv(200, 4096), iv(-200, 4096), iv(200, -4096)) {
		if s, err := pitch.Name(i); s != "" || err != api.ErrRange {
			t.Errorf("%v: %q %d", i, s, err)
		}
	}
}

func TestNameExamples(t *testing.T) {
	for i, want := range map[api.Interval]string{
		iv(0, 0): "P1", iv(3, 6): "A4", iv(4, 6): "d5", iv(2, 3): "m3", iv(2, 4): "M3", iv(2, 2): "d3", iv(7, 12): "P8", iv(8, 13): "m9", iv(14, 24): "P15", iv(-1, 0): "-d2", iv(0, -1): "-A1",
		iv(1, -1): "dd2", iv(1, -5): "dddddd2", iv(-1, 5): "-dddddd2", iv(0, 6): "AAAAAA1", iv(200, 343): "P201", iv(-200, -343): "-P201",
	} {
		if s, err := pitch.Name(i); s != want || err != api.OK {
			t.Errorf("%v: %q %d, not %q", i, s, err, want)
		}
	}
}

func TestNamedKnowsAllNames(t *testing.T) {
	for i, name := range names() {
		if j, err := pitch.Named(name); j != i || err != api.OK {
			t.Errorf("%q: %v %d, not %v", name, j, err, i)
		}
	}
}

func TestNamedFaults(t *testing.T) {
	for s, want := range map[string]api.Errno{
		"": api.ErrForm, "-": api.ErrForm, "5": api.ErrForm, "-5": api.ErrForm, "P": api.ErrForm, "-P": api.ErrForm, "X1": api.ErrForm, "--P5": api.ErrForm, " P5": api.ErrForm, "P5 ": api.ErrForm, "+P5": api.ErrForm,
		"P0": api.ErrForm, "P-5": api.ErrForm, "P05": api.ErrForm, "P-0": api.ErrForm, "P10000": api.ErrForm, "p5": api.ErrForm, "a4": api.ErrForm, "D5": api.ErrForm, "P\xff": api.ErrForm, "P♯5": api.ErrForm, "P5P": api.ErrForm,
		"P202": api.ErrRange, "M9999": api.ErrRange, "-P202": api.ErrRange, "AAAAAAA1": api.ErrRange, "-ddddddd5": api.ErrRange, "PMmAdPM3": api.ErrRange, "AAAAAAA0": api.ErrForm, "AAAAAAAx": api.ErrForm, "MM202": api.ErrRange,
		"P3": api.ErrForm, "M5": api.ErrForm, "m4": api.ErrForm, "m1": api.ErrForm, "M8": api.ErrForm, "P2": api.ErrForm, "-P1": api.ErrForm, "d1": api.ErrForm, "-d1": api.ErrForm, "dd1": api.ErrForm,
		"PP5": api.ErrForm, "MM3": api.ErrForm, "mm3": api.ErrForm, "Ad4": api.ErrForm, "dA4": api.ErrForm, "AP5": api.ErrForm, "dm3": api.ErrForm, "md3": api.ErrForm, "Md3": api.ErrForm, "MA3": api.ErrForm, "M201": api.ErrForm,
		strings.Repeat("A", 100000) + "1": api.ErrRange,
	} {
		if i, err := pitch.Named(s); i != iv(0, 0) || err != want {
			t.Errorf("%.20q: %v %d, not %d", s, i, err, want)
		}
	}
}

// TestNamedEverything: of all short texts of the signs that matter those that are names are told, and no other ones.
func TestNamedEverything(t *testing.T) {
	known := map[string]api.Interval{}
	for i, name := range names() {
		known[name] = i
	}
	shape := regexp.MustCompile(`^-?[PMmAd]+([1-9][0-9]{0,3})$`)
	texts := []string{""}
	for range 6 {
		next := []string{""}
		for _, s := range texts {
			for _, sign := range []string{"-", "P", "M", "m", "A", "d", "0", "1", "3"} {
				next = append(next, s+sign)
			}
		}
		texts = next
	}
	for _, s := range texts {
		want, ok := known[s]
		wantErr := api.OK
		if !ok {
			wantErr = api.ErrForm
			if m := shape.FindStringSubmatch(s); m != nil {
				if n, _ := strconv.Atoi(m[1]); n > 201 {
					wantErr = api.ErrRange
				}
			}
		}
		if i, err := pitch.Named(s); i != want || err != wantErr {
			t.Fatalf("%q: %v %d, not %v %d", s, i, err, want, wantErr)
		}
	}
}
