package pitch

import (
	"strconv"
	"strings"

	"cantus/api"
)

const (
	letterSigns  = "CDEFGAB"
	naturalSign  = "♮"
	qualitySigns = "PMmAd"
	maxDigits    = 4
)

// alterSigns: from the most flats to the most sharps.
var alterSigns = [...]string{"𝄫♭", "𝄫", "♭", "", "♯", "𝄪", "𝄪♯"}

// Print writes a pitch.
func Print(p api.Pitch) (string, api.Errno) {
	if !Right(p) {
		return "", api.ErrForm
	}
	return letterSigns[p.Letter:p.Letter+1] + alterSigns[p.Alter+api.MaxAlter] + strconv.Itoa(p.Octave), api.OK
}

// Read reads a pitch.
func Read(s string) (api.Pitch, api.Fault) {
	if s == "" {
		return wrongAt(0, api.ErrForm)
	}
	letter := strings.IndexByte(letterSigns, s[0])
	if letter < 0 {
		return wrongAt(0, api.ErrForm)
	}
	alter, long, err := readSigns(s[1:])
	at := 1 + long
	if err != api.OK {
		return wrongAt(at, err)
	}
	octave, ok := readNumber(s[at:])
	if !ok {
		return wrongAt(at, api.ErrForm)
	}
	if !within(octave, api.MaxOctave) {
		return wrongAt(at, api.ErrRange)
	}
	return api.Pitch{Letter: letter, Alter: alter, Octave: octave}, api.Fault{}
}

func wrongAt(at int, err api.Errno) (api.Pitch, api.Fault) {
	return api.Pitch{}, api.Fault{Err: err, At: at}
}

// readSigns tells what the signs that s begins with add up to, and where they end (or go wrong).
func readSigns(s string) (alter, end int, err api.Errno) {
	if strings.HasPrefix(s, naturalSign) {
		return 0, len(naturalSign), api.OK
	}
	for at, sign := range s {
		adds := worth(sign)
		if adds == 0 {
			return alter, at, api.OK
		}
		alter += adds
		// A sign that takes off only a part of what stands ahead of it would say less than it shows.
		if alter*adds < 0 || !within(alter, api.MaxAlter) {
			return 0, at, api.ErrRange
		}
	}
	return alter, len(s), api.OK
}

// worth is what a sign adds: 0, if it is none.
func worth(sign rune) int {
	switch sign {
	case '♯', '#':
		return 1
	case '𝄪', 'x':
		return 2
	case '♭', 'b':
		return -1
	case '𝄫':
		return -2
	}
	return 0
}

// readNumber tells the whole number that s is, if it is written as one must be.
func readNumber(s string) (int, bool) {
	digits, below := strings.CutPrefix(s, "-")
	if len(digits) < 1 || len(digits) > maxDigits {
		return 0, false
	}
	if strings.ContainsFunc(digits, func(r rune) bool { return r < '0' || r > '9' }) {
		return 0, false
	}
	if digits[0] == '0' && (below || len(digits) > 1) {
		return 0, false
	}
	n, err := strconv.Atoi(s)
	return n, err == nil
}

// Name writes an interval.
func Name(i api.Interval) (string, api.Errno) {
	if !bounded(i) {
		return "", api.ErrRange
	}
	sign := ""
	if i.Steps < 0 || i.Steps == 0 && i.Halves < 0 {
		sign, i = "-", turned(i)
	}
	quality, times := qualityOf(i)
	if times > api.MaxSigns {
		return "", api.ErrRange
	}
	return sign + strings.Repeat(quality, times) + strconv.Itoa(i.Steps+1), api.OK
}

// qualityOf is the letter ahead of an interval's number, and how often it stands there; the interval goes up.
func qualityOf(i api.Interval) (string, int) {
	beyond := i.Halves - plainSize(i.Steps)
	switch perfect := isPerfect(i.Steps); {
	case beyond > 0:
		return "A", beyond
	case perfect && beyond == 0:
		return "P", 1
	case perfect:
		return "d", -beyond
	case beyond == 0:
		return "M", 1
	case beyond == -1:
		return "m", 1
	}
	return "d", -beyond - 1
}

// plainSize is how many half tones so many steps are from C0 on, without signs.
func plainSize(steps int) int { return halvesOf(plainAt(steps)) }

// isPerfect tells of primes, fourths, fifths and their octaves, which aren't either major or minor.
func isPerfect(steps int) bool {
	switch steps % octaveSteps {
	case 0, 3, 4:
		return true
	}
	return false
}

// Named reads an interval.
func Named(s string) (api.Interval, api.Errno) {
	name, down := strings.CutPrefix(s, "-")
	letters, rest := cutQuality(name)
	number, ok := readNumber(rest)
	if letters == "" || !ok || number < 1 {
		return api.Interval{}, api.ErrForm
	}
	if number-1 > api.MaxSteps || len(letters) > api.MaxSigns {
		return api.Interval{}, api.ErrRange
	}
	i := sized(letters, number-1)
	if down {
		i = turned(i)
	}
	// Only one interval can be meant; letters that are mixed, or don't go with the number or the sign, are no name of it.
	if right, err := Name(i); err != api.OK || right != s {
		return api.Interval{}, api.ErrForm
	}
	return i, api.OK
}

// cutQuality cuts s behind the letters that it begins with.
func cutQuality(s string) (letters, rest string) {
	end := strings.IndexFunc(s, func(r rune) bool { return !strings.ContainsRune(qualitySigns, r) })
	if end < 0 {
		return s, ""
	}
	return s[:end], s[end:]
}

// sized is the interval that goes up so many steps, if it is of the kind of its first letter.
func sized(letters string, steps int) api.Interval {
	halves := plainSize(steps)
	switch letters[0] {
	case 'A':
		halves += len(letters)
	case 'm':
		halves--
	case 'd':
		halves -= len(letters)
		if !isPerfect(steps) {
			halves--
		}
	}
	return api.Interval{Steps: steps, Halves: halves}
}
