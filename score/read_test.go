package score_test

import (
	"math/rand"
	"regexp"
	"slices"
	"strconv"
	"strings"
	"testing"
	"unicode/utf8"

	"cantus/api"
	"cantus/pitch"
	"cantus/score"
)

func TestM3Examples(t *testing.T) {
	for s, want := range map[string][]api.Voice{
		"":                                     nil,
		" \n \n":                               nil,
		"voice a":                              {{Name: "a"}},
		"\n voice\n\na \n":                     {{Name: "a"}},
		"voice voice":                          {{Name: "voice"}},
		"voice up voice a":                     {{Name: "up"}, {Name: "a"}},
		"voice a|3/4\nC4":                      piece(bar(3, 4, note(c4))),
		"voice a|3/4<C4>":                      piece(bar(3, 4, note(c4))),
		"voice a|3/4< C4\n>":                   piece(bar(3, 4, note(c4))),
		"voice a | 3 / 4 C4 * 2 \"la\" E4\n*3": piece(bar(3, 4, times(2, sung("la", c4)), times(3, note(e4)))),
		"voice a | 65536/65536 -*65536":        piece(bar(65536, 65536, times(65536, rest()))),
		"voice a|1/1~~-~":                      piece(bar(1, 1, tie(), tie(), rest(), tie())),
		"voice a|1/1[~-~]|1/2 -|1/3[[-]]":      piece(bar(1, 1, group(tie(), rest(), tie())), bar(1, 2, rest()), bar(1, 3, group(group(rest())))),
		"voice a|1/1 up P5[C4]*3 up -m2[-]":    piece(bar(1, 1, times(3, moved(4, 7, note(c4))), moved(-1, -1, rest()))),
		"voice a|1/1 up\nP5\n[ up d2 [ C4 ] \n] ": piece(bar(1, 1, moved(4, 7, moved(1, 0, note(c4))))),
		"voice a|1/1<C4 E4>*2\" la|~\"-":          piece(bar(1, 1, times(2, sung(" la|~", c4, e4)), rest())),
		"voice a|1/1 C4\"a\"C4\"b\"[C4\"c\"]":     piece(bar(1, 1, sung("a", c4), sung("b", c4), group(sung("c", c4)))),
		"voice a|1/1 C♮4 Cb#4 Cx-3":               piece(bar(1, 1, note(c4), note(c4), note(api.Pitch{Alter: 2, Octave: -3}))),
		"voice a|1/1 - voice b|1/1~voice c":       {{Name: "a", Bars: []api.Bar{bar(1, 1, rest())}}, {Name: "b", Bars: []api.Bar{bar(1, 1, tie())}}, {Name: "c"}},
		"voice a|1/1[-]voice b":                   {{Name: "a", Bars: []api.Bar{bar(1, 1, group(rest()))}}, {Name: "b"}},
		"voice a|1/1 C4\"x\"voice b":              {{Name: "a", Bars: []api.Bar{bar(1, 1, sung("x", c4))}}, {Name: "b"}},
		"voice " + strings.Repeat("z", 32):        {{Name: strings.Repeat("z", 32)}},
	} {
		if l, fault := score.Read(s); !alike(l, want) || fault != (api.Fault{}) {
			t.Errorf("%q: %v %v, not %v", s, l, fault, want)
		}
	}
}

func form(at int) api.Fault { return api.Fault{Err: api.ErrForm, At: at} }

func wide(at int) api.Fault { return api.Fault{Err: api.ErrRange, At: at} }

func TestM4Faults(t *testing.T) {
	for s, want := range map[string]api.Fault{
		"x": form(0), " x": form(1), "voicea": form(0), "Voice a": form(0), "|": form(0), "\"": form(0), "\t": form(0), "\r\n": form(0), "\xff": form(0), "voice": form(5), "voice \n": form(7),
		"voice |": form(6), "voice A": form(6), "voice a1": form(6), "voice é": form(6), "voice a\tb": form(6), "voice a\r": form(6), "voice " + strings.Repeat("z", 33): form(6),
		"voice a b": form(8), "voice a /": form(8), "voice a ~": form(8), "voice a C4": form(8), "voice a -": form(8), "voice a voices": form(8),
	} {
		isFault(t, s, want)
	}
	// Behind the name of a voice.
	for s, want := range map[string]api.Fault{
		"|": form(1), "||": form(1), "| ": form(2), "|/": form(1), "|x": form(1), "|-1/1 -": form(1), "|+1/1 -": form(1), "|1.5/1 -": form(1), "|1_0/1 -": form(1), "|٤/1 -": form(1), "|1": form(2), "|1 ": form(3), "|1 1": form(3), "|1|": form(2), "|1/": form(3), "|1//": form(3), "|1/ -": form(4), "|1/1": form(4), "|1/1\n\n": form(6),
		"|0/1 -": wide(1), "|1/0 -": wide(3), "|65537/1 -": wide(1), "|1/65537 -": wide(3), "|99999999999999999999999/1": wide(1), "|18446744073709551617/1": wide(1), "|0/0": wide(1),
		"|00/1": form(1), "|01/1": form(1), "|1/065537": form(3), "|0x1/1": form(1), "|1x/1": form(1), "|0-/1": form(1),
		"|1/1|": form(4), "|1/1]": form(4), "|1/1>": form(4), "|1/1*": form(4), "|1/1/": form(4), "|1/1\"": form(4), "|1/1 voice": form(5), "|1/1 voice b": form(5), "|1/1 --": form(5), "|1/1 -C4": form(5), "|1/1 UP": form(5), "|1/1C4": form(3), "|1/1-": form(3), "|1/1 -voice b": form(5), "|1/1 - voice": form(12), "|1/1 - voice |": form(13),
	} {
		want.At += len("voice a")
		isFault(t, "voice a"+s, want)
	}
}

// TestM4Items: faults behind a bar's length, or behind an item, or in a group, or in a group that is moved.
func TestM4Items(t *testing.T) {
	for s, want := range map[string]api.Fault{
		"H4": form(0), "c4": form(0), "4": form(0), "é": form(0), "\x00": form(0), "\xff": form(0), "C": form(1), "C ": form(1), "C4\t": form(1), "C13": wide(1), "C4C4": form(1), "C♯": form(4), "C♯♯♯♯4": wide(10), "C\xff": form(1), "Cx\xff4": form(2), "C04": form(1), "C-": form(1), "C--1": form(1), "C♯♯𝄫𝄫𝄫0": wide(15), "C♯♯♭": wide(7),
		"<": form(1), "<>": form(1), "<[": form(1), "<C4": form(3), "< C4 ": form(5), "<C4]": form(3), "<C4 ~>": form(4), "<C4*2>": form(3), "<C4\"x\">": form(3), "<C4 <": form(4), "<->": form(1), "<C4 ->": form(4), "<up>": form(1), "<C4 C13>": wide(5), "<C4 C####>": wide(8), "<C4 C>": form(5), "<C4 E4 voice": form(7), "<C4|": form(3),
		"~>": form(1), "~/": form(1), "~\"x\"": form(1), "-\"x\"": form(1), "-*2\"x\"": form(3), "~ *2 \"x\"": form(5), "[-]\"x\"": form(3), "[-]*2\"x\"": form(5), "up P1[-]\"x\"": form(8),
		"C4*": form(3), "C4* ": form(4), "C4**2": form(3), "C4*x": form(3), "C4*0": wide(3), "C4*00": form(3), "C4*01": form(3), "C4*65537": wide(3), "C4*2*2": form(4), "C4*-1": form(3), "C4*2C4": form(3), "C4*|": form(3), "C4*\"x\"": form(3), "[-]*0": wide(4), "~*": form(2), "-*0": wide(2),
		"C4\"x\"\"y\"": form(5), "C4\"x\"*2": form(5), "C4/": form(2), "C4>": form(2), "C4 -1": form(3), "C4 x": form(3), "C4 up": form(5),
		"[": form(1), "[ ": form(2), "[]": form(1), "[|": form(1), "[*": form(1), "[\"": form(1), "[voice": form(1), "[- voice b]": form(3), "[-": form(2), "[- ": form(3), "[-|1/1 -]": form(2), "[->": form(2), "[->]": form(2), "[~>]": form(2), "[- x]": form(3), "[[-]": form(4), "[C4*]": form(4), "[C4\"x\"\"]": form(6),
		"up": form(2), "up ": form(3), "up[": form(2), "up|": form(2), "up X[": form(3), "up P0[": form(3), "up P3[": form(3), "up 5[": form(3), "up P5": form(5), "up P5 ": form(6), "up P5 C4": form(6), "up P5~": form(5), "up P5\"": form(5), "up P5 up": form(6), "up P5[": form(6), "up P5[]": form(6), "up P202[-]": wide(3), "up AAAAAAA4": wide(3), "up -P1[-]": form(3), "up up P5[-]": form(3), "up \xff": form(3), "up -": form(3), "up P5[up M5[-]]": form(9),
	} {
		for _, ahead := range []string{"voice a|1/1 ", "voice a|1/1 E4 ", "voice b voice a|1/1 -|1/1 [E4] ", "voice a|1/1 [", "voice a|1/1 - up P5[E4*2 \"la\" "} {
			isFault(t, ahead+s, api.Fault{Err: want.Err, At: len(ahead) + want.At})
		}
	}
}

func TestM4Lyrics(t *testing.T) {
	for _, ahead := range []string{"voice a|1/1 C4\"", "voice a|1/1 [<C4 E4> * 2 \n\""} {
		behind := "\""
		if strings.Contains(ahead, "[") {
			behind = "\"]"
		}
		for _, lyric := range rightLyrics() {
			l, fault := score.Read(ahead + lyric + behind)
			if fault != (api.Fault{}) {
				t.Errorf("%q: %v", lyric, fault)
				continue
			}
			it := l[0].Bars[0].Items[0]
			if it.Kind == api.ItemGroup {
				it = it.Kids[0]
			}
			if it.Lyric != lyric {
				t.Errorf("%q, not %q", it.Lyric, lyric)
			}
		}
		most := strings.Repeat("é", api.MaxLyric)
		for lyric, want := range map[string]api.Fault{
			"": form(0), "\"": form(0), "\"x\"": form(0), "x": form(1), " ": form(1), "\n\"": form(0), "x\n\"": form(1), "é\t\"": form(2), "歌\x7f\"": form(3), "\x1f": form(0), "x\xff\"": form(1), "\xe6\xad\"": form(0), "𝄞\xf0\x9d\x84\"": form(4), "\xed\xa0\x80\"": form(0), "\xc0\xa2\"": form(0),
			most: form(200), most + "\n": form(200), most + "\xff": form(200), most + "\x7f": form(200), most + "x\"": {Err: api.ErrMuch, At: 200}, most + "é": {Err: api.ErrMuch, At: 200}, most + "\ufffd\xff": {Err: api.ErrMuch, At: 200}, strings.Repeat("𝄞", 101): {Err: api.ErrMuch, At: 400}, "x" + most: {Err: api.ErrMuch, At: 199},
		} {
			want.At += len(ahead)
			isFault(t, ahead+lyric, want)
		}
	}
}

func isFault(t *testing.T, s string, want api.Fault) {
	t.Helper()
	if l, fault := score.Read(s); len(l) != 0 || fault != want {
		t.Errorf("%.80q: %d voices %v, not %v", s, len(l), fault, want)
	}
	if _, fault := slowRead(s); fault != want {
		t.Errorf("%.80q: the slow one tells %v, not %v", s, fault, want)
	}
}

// TestM4Limits: where there is no room for a voice, a bar, a pitch or an item, it is told whatever stands there.
func TestM4Limits(t *testing.T) {
	many := func(at int) api.Fault { return api.Fault{Err: api.ErrMany, At: at} }
	much := func(at int) api.Fault { return api.Fault{Err: api.ErrMuch, At: at} }
	const ok = -1
	tells := func(full, last string, fault func(at int) api.Fault, at int) {
		t.Helper()
		if at >= 0 {
			isFault(t, full+last, fault(len(full)+at))
		} else if l, f := score.Read(full + last); len(l) == 0 || f != (api.Fault{}) {
			t.Errorf("..%q: %v", last, f)
		}
	}
	voices := strings.Repeat("voice a ", api.MaxVoices)
	for last, at := range map[string]int{"": ok, "|1/1 -": ok, "voice": 0, " voice a": 1, "x": 0, "[": 0, "\"": 0, "\xff": 0} {
		tells(voices, last, many, at)
	}
	for last, at := range map[string]int{"": ok, "voice": 1, "voice a": 1} {
		tells(voices+"|1/1~", " "+last, many, at)
	}
	isFault(t, voices+"|1/1~ x", form(len(voices)+6))
	bars := "voice a" + strings.Repeat("|1/1~", api.MaxBars)
	for last, at := range map[string]int{"": ok, " voice b|1/1~": ok, "|": 0, " |1/1~": 1, "|0": 0} {
		tells(bars, last, many, at)
	}
	isFault(t, bars+"]", form(len(bars)))
	chord := "voice a|1/1<" + strings.Repeat("C4 ", api.MaxChord)
	for last, at := range map[string]int{">": ok, " \n>-": ok, "C4": 0, " \nC4>": 2, "H": 0, "C####4": 0, "[": 0, "~": 0, "<": 0, "": 0, " ": 1} {
		tells(chord, last, many, at)
	}
	items := "voice a|1/1" + strings.Repeat("~", api.MaxBeats-1)
	for last, at := range map[string]int{"": ok, "*2": ok, "|1/1~": ok, " voice b": ok, "~": 0, " C4": 1, "H": 0, "[": 0, "]": 0, ">": 0, "up X": 0, " C####4": 1} {
		tells(items, last, much, at)
	}
	for _, ahead := range []string{"voice a|1/1[", "voice a|1/1 up P5["} {
		kids := ahead + strings.Repeat("~", api.MaxBeats-2)
		for last, at := range map[string]int{"]": ok, "]*2": ok, "]|1/1~": ok, "~": 0, "]~": 1, "[": 0, "|": 0, " voice": 1, "": 0, " ": 1, ">": 0} {
			tells(kids, last, much, at)
		}
	}
	for last, at := range map[string]int{"]": 0, "~": 0, " C4]": 1, "": 0, "|": 0, "\"": 0, " H": 1} {
		tells("voice a|1/1"+strings.Repeat("~", api.MaxBeats-2)+"[", last, much, at)
		tells("voice a|1/1"+strings.Repeat("[", api.MaxLevel-1), last, much, at)
		tells("voice a|1/1~"+strings.Repeat("[", api.MaxLevel-1), last, much, at)
		tells("voice a|1/1~"+strings.Repeat("[- ", api.MaxLevel-2)+"up P5 [", last, much, at)
	}
	top := "voice a|1/1~" + strings.Repeat("[", api.MaxLevel-2)
	isFault(t, top+"up X[", form(len(top)+3))
	tells(top, "C4"+strings.Repeat("]", api.MaxLevel-2)+"C4", nil, ok)
}

func TestM4TooLong(t *testing.T) {
	for _, s := range []string{strings.Repeat(" ", api.MaxText+1), "voice a" + strings.Repeat("\n", api.MaxText), "x" + strings.Repeat("\xff", 1<<20)} {
		isFault(t, s, api.Fault{Err: api.ErrMuch})
	}
	if l, fault := score.Read(strings.Repeat(" ", api.MaxText)); len(l) != 0 || fault != (api.Fault{}) {
		t.Errorf("%v", fault)
	}
	isFault(t, strings.Repeat(" ", api.MaxText-1)+"x", form(api.MaxText-1))
	isFault(t, "voice"+strings.Repeat(" ", api.MaxText-5), form(api.MaxText))
}

// slow reads by a table of what may stand where, with the groups that are open on a stack.
type slow struct {
	s    string
	at   int
	out  []api.Voice
	open [][]api.Item // the bar's items, then those of each group that is open: it is the last one of the list ahead
	met  int
}

var (
	aWord   = regexp.MustCompile("^[^ \n|/<>~\\[\\]*\"]+")
	aName   = regexp.MustCompile(`^[a-z]{1,32}$`)
	aNumber = regexp.MustCompile(`^(0|[1-9][0-9]*)$`)
)

type slowState int

const (
	wantVoice slowState = iota
	wantName
	wantBar
	wantUp
	wantSlash
	wantDown
	wantItem
	wantBy
	wantOpen
	wantPitch
	wantMorePitch
	wantStar
	wantShare
	wantLyric
	wantMore
)

func slowRead(s string) ([]api.Voice, api.Fault) {
	if len(s) > api.MaxText {
		return nil, api.Fault{Err: api.ErrMuch}
	}
	m := &slow{s: s}
	state := wantVoice
	for {
		for m.at < len(s) && (s[m.at] == ' ' || s[m.at] == '\n') {
			m.at++
		}
		token := aWord.FindString(s[m.at:])
		if token == "" && m.at < len(s) {
			token = s[m.at : m.at+1]
		}
		next, fault, done := m.step(state, token)
		if fault.Err != api.OK {
			return nil, fault
		}
		if done {
			return m.out, api.Fault{}
		}
		state = next
	}
}

func (m *slow) fault(err api.Errno) (slowState, api.Fault, bool) {
	return 0, api.Fault{Err: err, At: m.at}, false
}

func (m *slow) goes(token string, next slowState) (slowState, api.Fault, bool) {
	m.at += len(token)
	return next, api.Fault{}, false
}

func (m *slow) bar() *api.Bar {
	v := &m.out[len(m.out)-1]
	return &v.Bars[len(v.Bars)-1]
}

// last is the item that is read.
func (m *slow) last() *api.Item {
	l := m.open[len(m.open)-1]
	return &l[len(l)-1]
}

func slowNumber(token string) (int, api.Errno) {
	if !aNumber.MatchString(token) {
		return 0, api.ErrForm
	}
	if n, err := strconv.Atoi(token); err == nil && n >= 1 && n <= 65536 {
		return n, api.OK
	}
	return 0, api.ErrRange
}

func (m *slow) step(state slowState, token string) (slowState, api.Fault, bool) {
	switch state {
	case wantVoice:
		if token == "" {
			return 0, api.Fault{}, true
		}
		if len(m.out) == 64 {
			return m.fault(api.ErrMany)
		}
		if token != "voice" {
			return m.fault(api.ErrForm)
		}
		return m.goes(token, wantName)
	case wantName:
		if !aName.MatchString(token) {
			return m.fault(api.ErrForm)
		}
		m.out = append(m.out, api.Voice{Name: token})
		return m.goes(token, wantBar)
	case wantBar:
		if token != "|" {
			return wantVoice, api.Fault{}, false
		}
		v := &m.out[len(m.out)-1]
		if len(v.Bars) == 1024 {
			return m.fault(api.ErrMany)
		}
		v.Bars = append(v.Bars, api.Bar{})
		m.open, m.met = [][]api.Item{nil}, 0
		return m.goes(token, wantUp)
	case wantUp, wantDown, wantShare:
		n, err := slowNumber(token)
		if err != api.OK {
			return m.fault(err)
		}
		switch state {
		case wantUp:
			m.bar().Up = n
			return m.goes(token, wantSlash)
		case wantDown:
			m.bar().Down = n
			return m.goes(token, wantItem)
		}
		m.last().Share = n
		return m.goes(token, wantLyric)
	case wantSlash:
		if token != "/" {
			return m.fault(api.ErrForm)
		}
		return m.goes(token, wantDown)
	}
	return m.stepItem(state, token)
}

func (m *slow) stepItem(state slowState, token string) (slowState, api.Fault, bool) {
	switch state {
	case wantItem:
		if m.met == 4095 || len(m.open) == 32 {
			return m.fault(api.ErrMuch)
		}
		m.met++
		top := len(m.open) - 1
		m.open[top] = append(m.open[top], api.Item{Share: 1})
		return m.stepThing(token)
	case wantBy:
		by, err := pitch.Named(token)
		if err != api.OK {
			return m.fault(err)
		}
		m.last().By = by
		return m.goes(token, wantOpen)
	case wantOpen:
		if token != "[" {
			return m.fault(api.ErrForm)
		}
		m.open = append(m.open, nil)
		return m.goes(token, wantItem)
	case wantMorePitch:
		if token == ">" {
			return m.goes(token, wantStar)
		}
		if len(m.last().Pitches) == 16 {
			return m.fault(api.ErrMany)
		}
		return m.stepPitch(token, wantMorePitch)
	case wantPitch:
		return m.stepPitch(token, wantMorePitch)
	case wantStar:
		if token == "*" {
			return m.goes(token, wantShare)
		}
		return wantLyric, api.Fault{}, false
	case wantLyric:
		if token == "\"" && m.last().Kind == api.ItemNote {
			return m.stepLyric()
		}
		return wantMore, api.Fault{}, false
	}
	return m.stepMore(token)
}

func (m *slow) stepThing(token string) (slowState, api.Fault, bool) {
	it := m.last()
	switch token {
	case "-":
		it.Kind = api.ItemRest
		return m.goes(token, wantStar)
	case "~":
		it.Kind = api.ItemTie
		return m.goes(token, wantStar)
	case "up":
		it.Kind = api.ItemMoved
		return m.goes(token, wantBy)
	case "[":
		it.Kind = api.ItemGroup
		return wantOpen, api.Fault{}, false
	case "<":
		it.Kind = api.ItemNote
		return m.goes(token, wantPitch)
	}
	it.Kind = api.ItemNote
	return m.stepPitch(token, wantStar)
}

func (m *slow) stepPitch(token string, next slowState) (slowState, api.Fault, bool) {
	p, fault := pitch.Read(token)
	if fault.Err != api.OK {
		m.at += fault.At
		return m.fault(fault.Err)
	}
	m.last().Pitches = append(m.last().Pitches, p)
	return m.goes(token, next)
}

func (m *slow) stepLyric() (slowState, api.Fault, bool) {
	m.at++
	lyric := ""
	for {
		r, size := utf8.DecodeRuneInString(m.s[m.at:])
		if r == '"' && lyric != "" {
			m.last().Lyric = lyric
			return m.goes("\"", wantMore)
		}
		if one := m.s[m.at : m.at+size]; !utf8.ValidString(one) || one == "" || strings.ContainsAny(one, "\"\x7f") || one < " " {
			return m.fault(api.ErrForm)
		}
		if utf8.RuneCountInString(lyric) == 100 {
			return m.fault(api.ErrMuch)
		}
		lyric += string(r)
		m.at += size
	}
}

// stepMore stands behind an item.
func (m *slow) stepMore(token string) (slowState, api.Fault, bool) {
	top := len(m.open) - 1
	if top > 0 && token == "]" {
		kids := m.open[top]
		m.open = m.open[:top]
		m.last().Kids = kids
		return m.goes(token, wantStar)
	}
	if top == 0 && (token == "" || token == "|" || token == "voice") {
		m.bar().Items = m.open[0]
		return wantBar, api.Fault{}, false
	}
	return wantItem, api.Fault{}, false
}

// isSame holds Read against the slow one.
func isSame(t *testing.T, s string) bool {
	t.Helper()
	want, wantFault := slowRead(s)
	l, fault := score.Read(s)
	if !alike(l, want) || fault != wantFault {
		t.Fatalf("%q: %v %v, not %v %v", s, l, fault, want, wantFault)
	}
	if fault.Err == api.OK && score.Wrong(l) != api.OK {
		t.Fatalf("%q: %v is wrong: %d", s, l, score.Wrong(l))
	}
	return fault.Err == api.OK
}

var pieces = []string{" ", " C4", " -", "~", "[", "]", "<", ">", "*", "2", " 0", "\"", "x", " up", " m3", "|", "/", " voice", " b", "♯", "\n", "\xff"}

// TestM4Everything reads all short texts of the words and signs that matter.
func TestM4Everything(t *testing.T) {
	for _, ahead := range []string{"", "voice a|1/2", "voice a|1/2[-", "voice a|1/2<C4"} {
		texts := []string{ahead}
		for range 3 {
			var next []string
			for _, s := range texts {
				isSame(t, s)
				for _, more := range pieces {
					next = append(next, s+more)
				}
			}
			texts = next
		}
		for _, s := range texts {
			isSame(t, s)
		}
	}
}

// TestM4Some: right texts into which something is put, of which something is cut, or in which something stands instead.
func TestM4Some(t *testing.T) {
	r := rand.New(rand.NewSource(8))
	right, wrong := 0, 0
	for range 20000 {
		s := slowPrint(somePiece(r))
		if len(s) > 3000 {
			continue
		}
		for range r.Intn(4) {
			from := r.Intn(len(s) + 1)
			to := min(len(s), from+r.Intn(4))
			more := ""
			if r.Intn(3) > 0 {
				more = pieces[r.Intn(len(pieces))]
			}
			s = s[:from] + more + s[to:]
		}
		if isSame(t, s) {
			right++
		} else {
			wrong++
		}
	}
	if right < 3000 || wrong < 3000 {
		t.Errorf("%d right, %d wrong", right, wrong)
	}
}

// TestM4New: no two lists of what is read share memory, spare room too.
func TestM4New(t *testing.T) {
	s := "voice a|1/1 C4 <C4 E4 C4> [- - -] up P5 [C4 - E4]|1/2 -|1/3 - voice b|1/1 C4 - E4 voice c"
	want, _ := slowRead(s)
	l, fault := score.Read(s)
	if fault != (api.Fault{}) {
		t.Fatalf("%v", fault)
	}
	var spoil func(items []api.Item)
	spoil = func(items []api.Item) {
		for _, it := range items {
			_ = append(it.Pitches, slices.Repeat([]api.Pitch{{Letter: 5}}, cap(it.Pitches)-len(it.Pitches))...)
			spoil(it.Kids)
		}
		_ = append(items, slices.Repeat([]api.Item{tie()}, cap(items)-len(items))...)
	}
	for _, v := range l {
		for _, b := range v.Bars {
			spoil(b.Items)
		}
		_ = append(v.Bars, slices.Repeat([]api.Bar{bar(9, 9)}, cap(v.Bars)-len(v.Bars))...)
	}
	if !alike(l, want) {
		t.Errorf("%v, not %v", l, want)
	}
	if again, _ := score.Read(s); !alike(again, want) {
		t.Errorf("%v, not %v", again, want)
	}
}

func FuzzRead(f *testing.F) {
	for _, s := range []string{"", "voice a\n| 3/4 C4 [D♯4 -*2] up m3 [<C4 E4> ~]\n| 1/2 ~ F4*3 \"lä\"\nvoice b\n| 1/1 -\n", "voice a | 2/4 up P5 [up -m2 [C4]]"} {
		f.Add(s)
	}
	f.Fuzz(func(t *testing.T, s string) { isSame(t, s) })
}
