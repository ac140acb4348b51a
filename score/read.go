package score

import (
	"strconv"
	"strings"

	"cantus/api"
	"cantus/pitch"
)

const (
	blanks    = " \n"
	signs     = `|/<>~[]*"`
	lyricSign = '"'
	voiceWord = "voice"
	restWord  = "-"
	movedWord = "up"
)

// Read reads a piece.
func Read(s string) (l []api.Voice, f api.Fault) {
	if len(s) > api.MaxText {
		return nil, api.Fault{Err: api.ErrMuch}
	}
	// Whatever is wrong, and however deep it stands, is thrown where it is met.
	defer func() {
		switch thrown := recover().(type) {
		case nil:
		case api.Fault:
			l, f = nil, thrown
		default:
			// A slip of the program must not pass for a fault of the text, nor for none.
			panic(thrown)
		}
	}()
	r := reader{text: text{all: s}}
	return r.piece(), api.Fault{}
}

// text is read from its beginning to its end; at is the next byte.
type text struct {
	all string
	at  int
}

// fail ends the reading of all.
func (t *text) fail(err api.Errno) { t.failAt(t.at, err) }

func (t *text) failAt(at int, err api.Errno) { panic(api.Fault{Err: err, At: at}) }

func (t *text) skipBlanks() {
	for t.at < len(t.all) && strings.IndexByte(blanks, t.all[t.at]) >= 0 {
		t.at++
	}
}

func (t *text) ends() bool {
	t.skipBlanks()
	return t.at == len(t.all)
}

// stands tells whether this sign is right here.
func (t *text) stands(sign byte) bool { return t.at < len(t.all) && t.all[t.at] == sign }

// sees tells whether this sign is next.
func (t *text) sees(sign byte) bool {
	t.skipBlanks()
	return t.stands(sign)
}

// takes goes behind a sign, if it is next.
func (t *text) takes(sign byte) bool {
	if !t.sees(sign) {
		return false
	}
	t.at++
	return true
}

func (t *text) mustTake(sign byte) {
	if !t.takes(sign) {
		t.fail(api.ErrForm)
	}
}

// word is the next one, which is not left behind yet; it is empty, if there is a sign or the end.
func (t *text) word() string {
	t.skipBlanks()
	rest := t.all[t.at:]
	if end := strings.IndexAny(rest, blanks+signs); end >= 0 {
		return rest[:end]
	}
	return rest
}

// reader reads a piece, each method a part of it from where the text stands.
type reader struct {
	text
	items int // those of the bar so far, kids and all
}

func (r *reader) piece() []api.Voice {
	var out []api.Voice
	for !r.ends() {
		if len(out) == api.MaxVoices {
			r.fail(api.ErrMany)
		}
		out = append(out, r.voice())
	}
	return out
}

func (r *reader) voice() api.Voice {
	if r.word() != voiceWord {
		r.fail(api.ErrForm)
	}
	r.at += len(voiceWord)
	v := api.Voice{Name: r.name()}
	for r.sees('|') {
		if len(v.Bars) == api.MaxBars {
			r.fail(api.ErrMany)
		}
		v.Bars = append(v.Bars, r.bar())
	}
	return v
}

func (r *reader) name() string {
	word := r.word()
	if !isName(word) {
		r.fail(api.ErrForm)
	}
	r.at += len(word)
	return strings.Clone(word)
}

func (r *reader) bar() api.Bar {
	r.mustTake('|')
	var b api.Bar
	b.Up = r.number()
	r.mustTake('/')
	b.Down = r.number()
	r.items = 0
	b.Items = append(b.Items, r.item(1))
	for !r.ends() && !r.sees('|') && r.word() != voiceWord {
		b.Items = append(b.Items, r.item(1))
	}
	return b
}

func (r *reader) number() int {
	word := r.word()
	if !isDigits(word) {
		r.fail(api.ErrForm)
	}
	// Digits can go wrong only by being too many, which is out of range too.
	n, err := strconv.Atoi(word)
	if err != nil || !isShare(n) {
		r.fail(api.ErrRange)
	}
	r.at += len(word)
	return n
}

// isDigits tells of one or more, without a 0 ahead of others.
func isDigits(s string) bool {
	for _, r := range s {
		if r < '0' || r > '9' {
			return false
		}
	}
	return s == "0" || s != "" && s[0] != '0'
}

func (r *reader) item(level int) api.Item {
	r.skipBlanks()
	// Ahead of what stands there: there is no room for it, whatever it is.
	if r.items == maxItems || level > maxLevel {
		r.fail(api.ErrMuch)
	}
	r.items++
	it := r.thing(level)
	it.Share = 1
	if r.takes('*') {
		it.Share = r.number()
	}
	if it.Kind == api.ItemNote && r.sees(lyricSign) {
		it.Lyric = r.lyric()
	}
	return it
}

// thing is an item without its share and its lyric.
func (r *reader) thing(level int) api.Item {
	switch r.word() {
	case "":
		return r.signed(level)
	case restWord:
		r.at += len(restWord)
		return api.Item{Kind: api.ItemRest}
	case movedWord:
		r.at += len(movedWord)
		by := r.interval()
		return api.Item{Kind: api.ItemMoved, By: by, Kids: r.group(level)}
	}
	return api.Item{Kind: api.ItemNote, Pitches: []api.Pitch{r.pitch()}}
}

// signed is a thing that begins with a sign.
func (r *reader) signed(level int) api.Item {
	switch {
	case r.takes('<'):
		return api.Item{Kind: api.ItemNote, Pitches: r.chord()}
	case r.takes('~'):
		return api.Item{Kind: api.ItemTie}
	}
	return api.Item{Kind: api.ItemGroup, Kids: r.group(level)}
}

// group has the kids of an item on a level.
func (r *reader) group(level int) []api.Item {
	r.mustTake('[')
	out := []api.Item{r.item(level + 1)}
	for !r.takes(']') {
		out = append(out, r.item(level+1))
	}
	return out
}

// chord is read from behind its first sign.
func (r *reader) chord() []api.Pitch {
	out := []api.Pitch{r.pitch()}
	for !r.takes('>') {
		// Ahead of what stands there, likewise.
		if len(out) == api.MaxChord {
			r.fail(api.ErrMany)
		}
		out = append(out, r.pitch())
	}
	return out
}

func (r *reader) pitch() api.Pitch {
	word := r.word()
	p, fault := pitch.Read(word)
	if fault.Err != api.OK {
		r.failAt(r.at+fault.At, fault.Err)
	}
	r.at += len(word)
	return p
}

func (r *reader) interval() api.Interval {
	word := r.word()
	by, err := pitch.Named(word)
	if err != api.OK {
		r.fail(err)
	}
	r.at += len(word)
	return by
}

func (r *reader) lyric() string {
	r.mustTake(lyricSign)
	from := r.at
	for runes := 0; runes == 0 || !r.stands(lyricSign); runes++ {
		size := sungSize(r.all[r.at:])
		if size == 0 {
			r.fail(api.ErrForm)
		}
		if runes == api.MaxLyric {
			r.fail(api.ErrMuch)
		}
		r.at += size
	}
	lyric := strings.Clone(r.all[from:r.at])
	r.at++
	return lyric
}
