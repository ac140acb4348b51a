package take_test

import (
	"slices"
	"testing"

	"cantus/api"
	"cantus/take"
)

const roomy = api.MaxEdits * api.MaxRecord

// disk is a disk whose power may go.
type disk struct {
	words []int64
	left  int      // so many words can be put; below 0: any number
	puts  [][2]int // the places and words that were asked for, with power or without it
	bad   bool     // a word was asked for, or put, that it does not have
}

func newDisk(size int) *disk { return &disk{words: make([]int64, size), left: -1} }

// holding is a disk that begins with some words, and has nothing else.
func holding(words ...int64) *disk { return &disk{words: slices.Clone(words), left: -1} }

func (d *disk) Size() int { return len(d.words) }

func (d *disk) has(i int) bool {
	d.bad = d.bad || i < 0 || i >= len(d.words)
	return !d.bad
}

func (d *disk) Get(i int) int64 {
	if !d.has(i) {
		return 0
	}
	return d.words[i]
}

func (d *disk) Put(i int, w int64) bool {
	d.puts = append(d.puts, [2]int{i, int(w)})
	if !d.has(i) || d.left == 0 {
		return false
	}
	d.left--
	d.words[i] = w
	return true
}

func at(letter, alter, octave int) api.Pitch {
	return api.Pitch{Letter: letter, Alter: alter, Octave: octave}
}

func tone(start, long int, p api.Pitch) api.Tone {
	return api.Tone{At: start, Long: long, Pitch: p}
}

var c4, d4, e4 = at(0, 0, 4), at(1, 0, 4), at(2, 0, 4)

// a, b and c are tones, in their order.
var a, b, c = tone(1, 1, c4), tone(2, 1, d4), tone(3, 1, e4)

func put(t api.Tone) api.Edit { return api.Edit{Do: api.EditPut, Tone: t} }

func cut(n int) api.Edit { return api.Edit{Do: api.EditCut, N: n} }

var undo, redo = api.Edit{Do: api.EditUndo}, api.Edit{Do: api.EditRedo}

func line(l ...api.Tone) []api.Tone { return l }

// does does an edit, with what comes of it.
func does(t *testing.T, x *take.Take, e api.Edit, want api.Errno) {
	t.Helper()
	if err := x.Do(e); err != want {
		t.Fatalf("%v: %d, not %d", e, err, want)
	}
}

func doAll(t *testing.T, x *take.Take, l ...api.Edit) {
	t.Helper()
	for _, e := range l {
		does(t, x, e, api.OK)
	}
}

func isLine(t *testing.T, x *take.Take, want ...api.Tone) {
	t.Helper()
	if l, err := x.Tones(); err != api.OK || !slices.Equal(l, want) {
		t.Fatalf("the line is %v %d, not %v", l, err, want)
	}
}

func isBroken(t *testing.T, x *take.Take) {
	t.Helper()
	if l, err := x.Tones(); err != api.ErrState || len(l) > 0 {
		t.Fatalf("it is broken, and the line is %v %d", l, err)
	}
}

func isDisk(t *testing.T, d *disk, want []int64) {
	t.Helper()
	if !slices.Equal(d.words, want) {
		t.Fatalf("on the disk lies %v, not %v", d.words, want)
	}
	isWithin(t, d)
}

func isWithin(t *testing.T, d *disk) {
	t.Helper()
	if d.bad {
		t.Fatal("a word that the disk does not have was asked for, or put")
	}
}

// open is Open, which puts nothing on the disk.
func open(t *testing.T, d *disk) *take.Take {
	t.Helper()
	was, puts := slices.Clone(d.words), len(d.puts)
	x := take.Open(d)
	if x == nil || len(d.puts) > puts {
		t.Fatalf("Open has answered %v, and put %v", x, d.puts[puts:])
	}
	isDisk(t, d, was)
	return x
}

// after is a take on a roomy disk behind some edits.
func after(t *testing.T, l ...api.Edit) *take.Take {
	t.Helper()
	x := open(t, newDisk(roomy))
	doAll(t, x, l...)
	return x
}

// recordOf is how an edit lies on the disk, with all that it has, named or not.
func recordOf(e api.Edit) []int64 {
	p := e.Tone.Pitch
	return []int64{1, int64(e.Do), int64(e.N), int64(e.Tone.At), int64(e.Tone.Long), int64(p.Letter), int64(p.Alter), int64(p.Octave)}
}

func recordsOf(l ...api.Edit) []int64 {
	var out []int64
	for _, e := range l {
		out = append(out, recordOf(e)...)
	}
	return out
}
