package take_test

import (
	"math"
	"slices"
	"testing"

	"cantus/api"
	"cantus/take"
)

// TestN2Words is how edits lie on the disk, word by word.
func TestN2Words(t *testing.T) {
	d := newDisk(6 * api.MaxRecord)
	x := open(t, d)
	doAll(t, x, put(tone(7, 5, at(6, -2, -3))), put(tone(0, 3, at(1, 3, 12))), cut(1), undo, redo)
	want := []int64{
		1, 1, 0, 7, 5, 6, -2, -3,
		1, 1, 0, 0, 3, 1, 3, 12,
		1, 2, 1, 0, 0, 0, 0, 0,
		1, 3, 0, 0, 0, 0, 0, 0,
		1, 4, 0, 0, 0, 0, 0, 0,
		0, 0, 0, 0, 0, 0, 0, 0,
	}
	isDisk(t, d, want)
	isLine(t, open(t, d), tone(0, 3, at(1, 3, 12)))
}

// TestN2Open: the take that is opened goes on as the one would that was left.
func TestN2Open(t *testing.T) {
	edits := []api.Edit{put(b), put(a), undo, redo, put(c), cut(1), undo, undo, cut(0), undo, redo, put(c), undo, undo}
	d := newDisk(roomy)
	x := open(t, d)
	m := &model{}
	for _, e := range edits {
		does(t, x, e, api.OK)
		m.do(e)
		isLine(t, open(t, holding(d.words...)), m.line()...)
		for _, next := range []api.Edit{undo, redo, cut(0), cut(1), put(a)} {
			behind := &model{changes: slices.Clone(m.changes), stands: slices.Clone(m.stands), undone: slices.Clone(m.undone)}
			want := behind.wrong(next)
			opened := open(t, holding(d.words...))
			does(t, opened, next, want)
			if want == api.OK {
				behind.do(next)
			}
			isLine(t, opened, behind.line()...)
		}
	}
}

// TestN2Counts has one word of one record changed: unless it says another edit now, neither it counts nor those behind it.
func TestN2Counts(t *testing.T) {
	edits := []api.Edit{put(a), put(b), put(c), cut(1), undo, redo}
	behind := [][]api.Tone{{}, {a}, {a, b}, {a, b, c}, {a, c}, {a, b, c}, {a, c}}
	for i, e := range edits {
		for word := range api.MaxRecord {
			for _, w := range []int64{-1 << 63, -1, 0, 1, 2, 13, 1 << 32, 1<<32 + 1, 1<<63 - 1} {
				m, r := &model{}, recordOf(e)
				r[word] = w
				for _, ahead := range edits[:i] {
					m.do(ahead)
				}
				changed := api.Edit{Do: int(r[1]), N: int(r[2]), Tone: tone(int(r[3]), int(r[4]), at(int(r[5]), int(r[6]), int(r[7])))}
				if r[0] == 1 && changed == named(changed) && m.wrong(changed) == api.OK {
					continue // it counts, as another edit, or as it was
				}
				words := recordsOf(edits...)
				words[i*api.MaxRecord+word] = w
				isLine(t, open(t, holding(words...)), behind[i]...)
			}
		}
	}
}

// TestN2Unnamed: a word that means nothing has to be 0.
func TestN2Unnamed(t *testing.T) {
	for name, r := range map[string][]int64{
		"N of a put":      {1, 1, 1, 2, 1, 1, 0, 4},
		"At of a cut":     {1, 2, 0, 1, 0, 0, 0, 0},
		"Long of a cut":   {1, 2, 0, 0, 1, 0, 0, 0},
		"Letter of a cut": {1, 2, 0, 0, 0, 1, 0, 0},
		"Alter of a cut":  {1, 2, 0, 0, 0, 0, -1, 0},
		"Octave of a cut": {1, 2, 0, 0, 0, 0, 0, 4},
		"N of an undo":    {1, 3, 1, 0, 0, 0, 0, 0},
		"At of an undo":   {1, 3, 0, 1, 0, 0, 0, 0},
		"tone of an undo": {1, 3, 0, 1, 1, 0, 0, 4},
		"Octave, undo":    {1, 3, 0, 0, 0, 0, 0, 1},
	} {
		x := open(t, holding(slices.Concat(recordOf(put(a)), r, recordOf(put(c)))...))
		if l, err := x.Tones(); err != api.OK || !slices.Equal(l, line(a)) {
			t.Errorf("%s: %v %d", name, l, err)
		}
	}
	for word := 2; word < api.MaxRecord; word++ {
		r := recordOf(redo)
		r[word] = 1
		isLine(t, open(t, holding(slices.Concat(recordsOf(put(a), undo), r)...)))
	}
}

// TestN2NotBehind: an edit that cannot be done behind those ahead of it does not count, whatever it is.
func TestN2NotBehind(t *testing.T) {
	for name, e := range map[string]api.Edit{
		"no kind":        {},
		"kind 5":         {Do: 5},
		"kind -1":        {Do: -1},
		"no such place":  cut(1),
		"a place ahead":  cut(-1),
		"nothing undone": redo,
		"no length":      put(tone(0, 0, c4)),
		"too late":       put(tone(api.MaxTick+1, 1, c4)),
		"no pitch":       put(tone(0, 1, at(7, 0, 4))),
	} {
		x := open(t, holding(recordsOf(put(a), e, put(b))...))
		if l, err := x.Tones(); err != api.OK || !slices.Equal(l, line(a)) {
			t.Errorf("%s: %v %d", name, l, err)
		}
	}
	isLine(t, open(t, holding(recordsOf(put(a), undo, undo, put(b))...)))
	isLine(t, open(t, holding(recordsOf(put(a), put(b), undo, put(c), redo, cut(0))...)), a, c)
}

func TestN2Heads(t *testing.T) {
	for _, head := range []int64{math.MinInt64, -1, 0, 2, 3, 257, 1 << 32, 1<<32 + 1, math.MaxInt64} {
		words := recordsOf(put(a), put(b), put(c))
		words[api.MaxRecord] = head
		isLine(t, open(t, holding(words...)), a)
	}
}

// TestN2Fits: a record of which the disk lacks a word is none, and no word is asked for that it does not have.
func TestN2Fits(t *testing.T) {
	words, all := recordsOf(put(a), put(b), put(c)), line(a, b, c)
	for size := range len(words) + 1 {
		isLine(t, open(t, holding(words[:size]...)), all[:size/api.MaxRecord]...)
	}
}

// TestN2Anew: Open takes what lies on the disk then; what changes there later a take does not see.
func TestN2Anew(t *testing.T) {
	d := newDisk(4 * api.MaxRecord)
	x := open(t, d)
	doAll(t, x, put(a), put(b))
	d.words[0] = 0
	isLine(t, x, a, b)
	does(t, x, put(c), api.OK)
	isLine(t, x, a, b, c)
	isLine(t, open(t, d))
	d.words[0] = 1
	isLine(t, open(t, d), a, b, c)
}

// TestN2Most: no more than MaxEdits records are taken, though more lie there.
func TestN2Most(t *testing.T) {
	var edits []api.Edit
	for range api.MaxEdits / 2 {
		edits = append(edits, put(a), undo)
	}
	edits[api.MaxEdits-1] = put(b)
	d := holding(recordsOf(append(edits, cut(0), cut(0))...)...)
	x := open(t, d)
	isLine(t, x, a, b)
	does(t, x, cut(0), api.ErrMuch)
	isLine(t, x, a, b)
	isLine(t, open(t, holding(recordsOf(edits[:api.MaxEdits-1]...)...)), a)
}

// huge says that it has more words than any list, of which all are 0.
type huge struct{ size, most int }

func (h *huge) Size() int               { return h.size }
func (h *huge) Get(i int) int64         { h.most = max(h.most, i); return 0 }
func (h *huge) Put(i int, w int64) bool { h.most = max(h.most, i); return true }

func TestN2Sizes(t *testing.T) {
	for _, size := range []int{math.MinInt, -1 << 32, -8, -1, 0, 7} {
		h := &huge{size, -1}
		x := take.Open(h)
		isLine(t, x)
		does(t, x, put(a), api.ErrMuch)
		isLine(t, x)
		if h.most >= 0 {
			t.Errorf("of %d words one was asked for, or put", size)
		}
	}
	for _, size := range []int{1 << 32, math.MaxInt - 7, math.MaxInt} {
		x := take.Open(&huge{size, -1})
		for range api.MaxEdits / 2 {
			doAll(t, x, put(a), undo)
		}
		does(t, x, put(a), api.ErrMuch)
		isLine(t, x)
	}
}

// TestN3Puts: the head is 0 until the other words lie there.
func TestN3Puts(t *testing.T) {
	d := newDisk(3 * api.MaxRecord)
	x := open(t, d)
	doAll(t, x, put(tone(7, 5, at(6, -2, -3))), cut(0))
	want := [][2]int{
		{0, 0}, {1, 1}, {2, 0}, {3, 7}, {4, 5}, {5, 6}, {6, -2}, {7, -3}, {0, 1},
		{8, 0}, {9, 2}, {10, 0}, {11, 0}, {12, 0}, {13, 0}, {14, 0}, {15, 0}, {8, 1},
	}
	if !slices.Equal(d.puts, want) {
		t.Fatalf("put were %v, not %v", d.puts, want)
	}
}

// TestN3Power has the power go at each word of an edit of each kind.
func TestN3Power(t *testing.T) {
	base := []api.Edit{put(a), put(b), undo}
	for e, want := range map[api.Edit][]api.Tone{put(c): {a, c}, cut(0): {}, undo: {}, redo: {a, b}} {
		for left := range 12 {
			d := newDisk(10 * api.MaxRecord)
			for i := range d.words {
				d.words[i] = 77 // what lay there before
			}
			x := open(t, d)
			doAll(t, x, base...)
			was, puts := slices.Clone(d.words), len(d.puts)
			d.left = left
			if left > api.MaxRecord {
				does(t, x, e, api.OK)
				isLine(t, x, want...)
				isLine(t, open(t, d), want...)
				continue
			}
			does(t, x, e, api.ErrPower)
			isBroken(t, x)
			if len(d.puts) != puts+left+1 {
				t.Fatalf("%v: with power for %d words, %d were put or tried", e, left, len(d.puts)-puts)
			}
			record := recordOf(e)
			record[0] = 0
			copy(was[len(base)*api.MaxRecord:], record[:min(left, len(record))])
			isDisk(t, d, was)
			staysBroken(t, x, d)
			isLine(t, open(t, d), a)
		}
	}
}

// staysBroken: a broken take does nothing any more, whatever is wrong with an edit, and though the power is back.
func staysBroken(t *testing.T, x *take.Take, d *disk) {
	t.Helper()
	puts := len(d.puts)
	for _, left := range []int{0, -1} {
		d.left = left
		for _, e := range []api.Edit{put(c), cut(0), undo, redo, {}, {Do: 9}, put(api.Tone{}), cut(-1), cut(99)} {
			does(t, x, e, api.ErrState)
			isBroken(t, x)
		}
	}
	if len(d.puts) != puts {
		t.Fatalf("a broken take puts %v", d.puts[puts:])
	}
}

// TestN3Again: behind a crash the next take puts its records where the half one lies.
func TestN3Again(t *testing.T) {
	d := newDisk(3 * api.MaxRecord)
	x := open(t, d)
	does(t, x, put(a), api.OK)
	for left := range api.MaxRecord + 1 {
		d.left = left
		does(t, x, put(b), api.ErrPower)
		d.left = -1
		x = open(t, d)
		isLine(t, x, a)
	}
	doAll(t, x, put(c), cut(0))
	want := recordsOf(put(a), put(c), cut(0))
	isDisk(t, d, want)
	isLine(t, open(t, d), c)
}

// TestN3Room: what is wrong with an edit is told ahead of that there is no room; then nothing is put, and nothing changes.
func TestN3Room(t *testing.T) {
	for extra := range api.MaxRecord {
		d := newDisk(3*api.MaxRecord + extra)
		x := open(t, d)
		doAll(t, x, put(a), put(b), undo)
		was, puts := slices.Clone(d.words), len(d.puts)
		d.left = 0
		for range 2 {
			does(t, x, put(c), api.ErrMuch)
			does(t, x, put(api.Tone{}), api.ErrRange)
			does(t, x, cut(0), api.ErrMuch)
			does(t, x, cut(1), api.ErrRange)
			does(t, x, redo, api.ErrMuch)
			does(t, x, undo, api.ErrMuch)
			does(t, x, api.Edit{}, api.ErrKind)
			isLine(t, x, a)
			isDisk(t, d, was)
		}
		if len(d.puts) != puts {
			t.Fatalf("put were %v", d.puts[puts:])
		}
		// On a disk that has grown it goes on: nothing that could be done again was lost.
		d.words, d.left = append(d.words, make([]int64, api.MaxRecord)...), -1
		does(t, x, redo, api.OK)
		isLine(t, x, a, b)
		isLine(t, open(t, d), a, b)
	}
}

// TestN3Most: with MaxEdits edits of all kinds no other one is done, however great the disk is; and it does not break.
func TestN3Most(t *testing.T) {
	d := newDisk(2 * roomy)
	x := open(t, d)
	for range api.MaxEdits / 4 {
		doAll(t, x, put(a), undo, redo, cut(0))
	}
	was := slices.Clone(d.words)
	for range 2 {
		for _, e := range []api.Edit{put(a), undo} {
			does(t, x, e, api.ErrMuch)
		}
		does(t, x, redo, api.ErrNone)
		does(t, x, cut(0), api.ErrRange)
		isLine(t, x)
		isDisk(t, d, was)
		x = open(t, d)
	}
}
