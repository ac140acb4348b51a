package take_test

import (
	"math"
	"slices"
	"testing"

	"cantus/api"
	"cantus/take"
)

func TestN1Empty(t *testing.T) {
	x := after(t)
	isLine(t, x)
	does(t, x, cut(0), api.ErrRange)
	does(t, x, undo, api.ErrNone)
	does(t, x, redo, api.ErrNone)
	isLine(t, x)
}

func TestN1Put(t *testing.T) {
	x := after(t)
	for _, step := range []struct {
		put  api.Tone
		want []api.Tone
	}{
		{b, line(b)},
		{c, line(b, c)},
		{a, line(a, b, c)},
		{b, line(a, b, b, c)},
		{tone(2, 2, c4), line(a, b, b, tone(2, 2, c4), c)},
		{tone(2, 1, at(6, 3, 3)), line(a, tone(2, 1, at(6, 3, 3)), b, b, tone(2, 2, c4), c)},
		{tone(2, 1, at(0, 3, 4)), line(a, tone(2, 1, at(6, 3, 3)), tone(2, 1, at(0, 3, 4)), b, b, tone(2, 2, c4), c)},
		{tone(2, 1, at(1, 1, 4)), line(a, tone(2, 1, at(6, 3, 3)), tone(2, 1, at(0, 3, 4)), b, b, tone(2, 1, at(1, 1, 4)), tone(2, 2, c4), c)},
	} {
		does(t, x, put(step.put), api.OK)
		isLine(t, x, step.want...)
	}
}

func TestN1PutEdges(t *testing.T) {
	least, most := tone(0, 1, at(0, -3, -12)), tone(api.MaxTick, api.MaxTick, at(6, 3, 12))
	isLine(t, after(t, put(most), put(least)), least, most)
	x := after(t, put(a))
	for name, wrong := range map[string]struct {
		tone api.Tone
		want api.Errno
	}{
		"noughts":              {api.Tone{}, api.ErrRange},
		"ahead of 0":           {tone(-1, 1, c4), api.ErrRange},
		"far ahead of 0":       {tone(math.MinInt, 1, c4), api.ErrRange},
		"too late":             {tone(api.MaxTick+1, 1, c4), api.ErrRange},
		"far too late":         {tone(math.MaxInt, 1, c4), api.ErrRange},
		"no length":            {tone(0, 0, c4), api.ErrRange},
		"below no length":      {tone(0, -1, c4), api.ErrRange},
		"too long":             {tone(0, api.MaxTick+1, c4), api.ErrRange},
		"no letter":            {tone(0, 1, at(7, 0, 4)), api.ErrForm},
		"below all letters":    {tone(0, 1, at(-1, 0, 4)), api.ErrForm},
		"too sharp":            {tone(0, 1, at(0, 4, 4)), api.ErrForm},
		"too flat":             {tone(0, 1, at(0, -4, 4)), api.ErrForm},
		"too high":             {tone(0, 1, at(0, 0, 13)), api.ErrForm},
		"too low":              {tone(0, 1, at(0, 0, -13)), api.ErrForm},
		"too long, no letter":  {tone(0, 0, at(7, 0, 4)), api.ErrRange},
		"cut off it would fit": {tone(1<<32, 1, c4), api.ErrRange},
	} {
		if err := x.Do(put(wrong.tone)); err != wrong.want {
			t.Errorf("%s: %d, not %d", name, err, wrong.want)
		}
		isLine(t, x, a)
	}
}

// TestN1Unnamed: fields that a kind does not name mean nothing, and lie as noughts on the disk.
func TestN1Unnamed(t *testing.T) {
	d := newDisk(roomy)
	x := open(t, d)
	no := tone(-1, -1, at(9, 9, 99))
	for _, step := range []struct {
		e    api.Edit
		want []api.Tone
	}{
		{api.Edit{Do: api.EditPut, N: -7, Tone: a}, line(a)},
		{api.Edit{Do: api.EditPut, N: 99, Tone: b}, line(a, b)},
		{api.Edit{Do: api.EditCut, N: 0, Tone: no}, line(b)},
		{api.Edit{Do: api.EditUndo, N: -7, Tone: no}, line(a, b)},
		{api.Edit{Do: api.EditRedo, N: 99, Tone: no}, line(b)},
	} {
		does(t, x, step.e, api.OK)
		isLine(t, x, step.want...)
	}
	want := make([]int64, roomy)
	copy(want, recordsOf(put(a), put(b), cut(0), undo, redo))
	isDisk(t, d, want)
	isLine(t, open(t, d), b)
}

func TestN1Cut(t *testing.T) {
	for n, want := range [][]api.Tone{{b, c}, {a, c}, {a, b}} {
		isLine(t, after(t, put(a), put(b), put(c), cut(n)), want...)
	}
	x := after(t, put(a), put(b), put(c))
	for _, n := range []int{math.MinInt, -1 << 32, -1, 3, 4, 1024, 1 << 32, math.MaxInt} {
		does(t, x, cut(n), api.ErrRange)
		isLine(t, x, a, b, c)
	}
	doAll(t, x, cut(1), cut(1), cut(0))
	isLine(t, x)
	does(t, x, cut(0), api.ErrRange)
	isLine(t, after(t, put(a), put(a), put(a), cut(1)), a, a)
}

func TestN1Undo(t *testing.T) {
	x := after(t, put(c), put(a), put(b), cut(0), cut(1))
	isLine(t, x, b)
	for _, want := range [][]api.Tone{{b, c}, {a, b, c}, {a, c}, {c}, {}} {
		does(t, x, undo, api.OK)
		isLine(t, x, want...)
	}
	does(t, x, undo, api.ErrNone)
	for _, want := range [][]api.Tone{{c}, {a, c}, {a, b, c}, {b, c}, {b}} {
		does(t, x, redo, api.OK)
		isLine(t, x, want...)
	}
	does(t, x, redo, api.ErrNone)
	isLine(t, x, b)
}

// TestN1UndoOfTheLast: an undo is never undone, nor is a redo: the last EditPut or EditCut that stands is.
func TestN1UndoOfTheLast(t *testing.T) {
	x := after(t, put(a), put(b), undo, redo, undo)
	isLine(t, x, a)
	does(t, x, undo, api.OK)
	isLine(t, x)
	doAll(t, x, redo, redo, undo, put(c), undo, undo)
	isLine(t, x)
	does(t, x, undo, api.ErrNone)
	doAll(t, x, redo, redo)
	isLine(t, x, a, c)
}

// TestN1Redo: what was undone ahead of the last EditPut or EditCut cannot be done again, even if that one is undone.
func TestN1Redo(t *testing.T) {
	x := after(t, put(a), put(b), undo, put(c))
	does(t, x, redo, api.ErrNone)
	isLine(t, x, a, c)
	does(t, x, undo, api.OK)
	isLine(t, x, a)
	does(t, x, redo, api.OK)
	isLine(t, x, a, c)
	does(t, x, redo, api.ErrNone)
	doAll(t, x, undo, undo, redo)
	isLine(t, x, a)
	doAll(t, x, cut(0))
	does(t, x, redo, api.ErrNone)
	does(t, x, undo, api.OK)
	isLine(t, x, a)
	does(t, x, redo, api.OK)
	isLine(t, x)
}

// TestN1RedoStays: an edit with which something is wrong takes nothing away of what can be done again.
func TestN1RedoStays(t *testing.T) {
	x := after(t, put(a), put(b), undo, undo)
	does(t, x, put(tone(0, 0, c4)), api.ErrRange)
	does(t, x, put(tone(0, 1, at(7, 0, 4))), api.ErrForm)
	does(t, x, cut(0), api.ErrRange)
	does(t, x, undo, api.ErrNone)
	does(t, x, api.Edit{Do: 7, Tone: a}, api.ErrKind)
	isLine(t, x)
	doAll(t, x, redo, redo)
	isLine(t, x, a, b)
}

func TestN1Kinds(t *testing.T) {
	x := after(t, put(a), put(b), undo)
	for _, kind := range []int{math.MinInt, -1 << 32, -4, -1, 0, 5, 6, 255, 256, 257, 1 << 32, 1<<32 + 1, math.MaxInt} {
		for _, e := range []api.Edit{{}, {Tone: a}, {N: -1}, {Tone: tone(-1, 0, at(9, 9, 99))}} {
			e.Do = kind
			does(t, x, e, api.ErrKind)
			isLine(t, x, a)
		}
	}
	does(t, x, redo, api.OK)
	isLine(t, x, a, b)
}

// TestN1Most: a line of MaxTones tones needs all edits that a take has; what is wrong with an edit is told ahead of that.
func TestN1Most(t *testing.T) {
	d := newDisk(roomy + 5*api.MaxRecord)
	x := open(t, d)
	var want []api.Tone
	for i := range api.MaxTones {
		does(t, x, put(tone(i/2, 1, c4)), api.OK)
		want = append(want, tone(i/2, 1, c4))
	}
	d.words[roomy] = 7
	was, puts := slices.Clone(d.words), len(d.puts)
	for range 2 {
		does(t, x, put(a), api.ErrMany)
		does(t, x, put(tone(-1, 1, c4)), api.ErrRange)
		does(t, x, put(tone(0, 1, at(0, 4, 4))), api.ErrForm)
		does(t, x, cut(api.MaxTones), api.ErrRange)
		does(t, x, cut(api.MaxTones-1), api.ErrMuch)
		does(t, x, cut(0), api.ErrMuch)
		does(t, x, undo, api.ErrMuch)
		does(t, x, redo, api.ErrNone)
		does(t, x, api.Edit{Do: 5}, api.ErrKind)
		isLine(t, x, want...)
		isDisk(t, d, was)
		if len(d.puts) != puts {
			t.Fatalf("words were put: %v", d.puts[puts:])
		}
		x = open(t, d)
	}
}

// TestE2Tones: what is answered is new memory, its spare room too, and stays as it was told.
func TestE2Tones(t *testing.T) {
	x := after(t, put(a), put(c))
	first, _ := x.Tones()
	again, _ := x.Tones()
	spoil := func(l []api.Tone) {
		l = l[:cap(l)]
		for i := range l {
			l[i] = tone(9, 9, e4)
		}
	}
	spoil(first)
	if !slices.Equal(again, line(a, c)) {
		t.Fatalf("an answer changes with another one: %v", again)
	}
	isLine(t, x, a, c)
	does(t, x, put(b), api.OK)
	if !slices.Equal(again, line(a, c)) {
		t.Fatalf("an answer changes with an edit: %v", again)
	}
	spoil(again)
	for _, step := range []struct {
		e    api.Edit
		want []api.Tone
	}{{cut(0), line(b, c)}, {undo, line(a, b, c)}, {undo, line(a, c)}, {undo, line(a)}, {redo, line(a, c)}, {redo, line(a, b, c)}, {redo, line(b, c)}} {
		does(t, x, step.e, api.OK)
		isLine(t, x, step.want...)
		l, _ := x.Tones()
		spoil(l)
	}
}

// TestE1Takes: takes do not know of one another.
func TestE1Takes(t *testing.T) {
	x, y := after(t, put(a)), after(t, put(b), put(c))
	doAll(t, x, undo)
	isLine(t, y, b, c)
	doAll(t, y, cut(0))
	does(t, x, redo, api.OK)
	isLine(t, x, a)
	isLine(t, y, c)
	d := newDisk(api.MaxRecord)
	d.left = 3
	broken := open(t, d)
	does(t, broken, put(a), api.ErrPower)
	isLine(t, x, a)
	does(t, y, undo, api.OK)
	isLine(t, y, b, c)
}

// TestE1Nil: no disk at all has room for nothing.
func TestE1Nil(t *testing.T) {
	x := take.Open(nil)
	isLine(t, x)
	does(t, x, put(a), api.ErrMuch)
	does(t, x, put(tone(0, 0, c4)), api.ErrRange)
	does(t, x, undo, api.ErrNone)
	isLine(t, x)
}
