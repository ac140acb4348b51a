package take_test

import (
	"math/rand"
	"slices"
	"testing"

	"cantus/api"
	"cantus/canon"
)

// model is N1 as it is said: every EditPut and EditCut that was done, each of which stands or not, and the undone ones that can be done again, in the order in which they were undone.
type model struct {
	changes []api.Edit
	stands  []bool
	undone  []int
	all     []api.Edit // all edits that were done
}

// ahead is the order of tones as chapter 9 says it.
func ahead(a, b api.Tone) bool {
	x := []int{a.At, a.Long, a.Pitch.Octave, a.Pitch.Letter, a.Pitch.Alter}
	y := []int{b.At, b.Long, b.Pitch.Octave, b.Pitch.Letter, b.Pitch.Alter}
	return slices.Compare(x, y) < 0
}

// line does all again that stands.
func (m *model) line() []api.Tone {
	var out []api.Tone
	for i, e := range m.changes {
		if !m.stands[i] {
			continue
		}
		if e.Do == api.EditCut {
			out = slices.Delete(out, e.N, e.N+1)
			continue
		}
		place := 0
		for place < len(out) && !ahead(e.Tone, out[place]) {
			place++
		}
		out = slices.Insert(out, place, e.Tone)
	}
	return out
}

// last is the place of the last change that stands; -1: there is none.
func (m *model) last() int {
	last := -1
	for i, s := range m.stands {
		if s {
			last = i
		}
	}
	return last
}

func (m *model) wrong(e api.Edit) api.Errno {
	switch e.Do {
	case api.EditPut:
		if err := canon.Wrong([]api.Tone{e.Tone}); err != api.OK {
			return err
		}
		if len(m.line()) == 1024 {
			return api.ErrMany
		}
	case api.EditCut:
		if e.N < 0 || e.N >= len(m.line()) {
			return api.ErrRange
		}
	case api.EditUndo:
		if m.last() < 0 {
			return api.ErrNone
		}
	case api.EditRedo:
		if len(m.undone) == 0 {
			return api.ErrNone
		}
	default:
		return api.ErrKind
	}
	return api.OK
}

// do does an edit of which nothing is wrong.
func (m *model) do(e api.Edit) {
	switch e.Do {
	case api.EditPut, api.EditCut:
		m.changes, m.stands, m.undone = append(m.changes, e), append(m.stands, true), nil
	case api.EditUndo:
		i := m.last()
		m.stands[i], m.undone = false, append(m.undone, i)
	case api.EditRedo:
		i := m.undone[len(m.undone)-1]
		m.stands[i], m.undone = true, m.undone[:len(m.undone)-1]
	}
	m.all = append(m.all, e)
}

// anyTone is now and then none.
func anyTone(by *rand.Rand) api.Tone {
	t := tone(by.Intn(4), 1+by.Intn(2), at(by.Intn(7), by.Intn(3)-1, 3+by.Intn(2)))
	switch by.Intn(12) {
	case 0:
		t.Long = 0
	case 1:
		t.Pitch.Alter = 4
	}
	return t
}

// anyEdit has fields that its kind does not name, too.
func anyEdit(by *rand.Rand, tones int) api.Edit {
	e := api.Edit{Do: 1 + by.Intn(4), N: by.Intn(tones+2) - 1, Tone: anyTone(by)}
	if by.Intn(20) == 0 {
		e.Do = []int{-1, 0, 5, 257, 1 << 32, 1<<32 + 1}[by.Intn(6)]
	}
	return e
}

// named is an edit without what its kind does not name.
func named(e api.Edit) api.Edit {
	switch e.Do {
	case api.EditPut:
		return put(e.Tone)
	case api.EditCut:
		return cut(e.N)
	}
	return api.Edit{Do: e.Do}
}

// TestN1Drawn holds takes against the model, edit by edit, and what lies on the disk; now and then the take is opened anew.
func TestN1Drawn(t *testing.T) {
	for seed := range int64(300) {
		by := rand.New(rand.NewSource(seed))
		records := 20 + by.Intn(80)
		d := newDisk(records*api.MaxRecord + by.Intn(api.MaxRecord))
		x, m := open(t, d), &model{}
		for range 120 {
			e := anyEdit(by, len(m.line()))
			want := m.wrong(e)
			if want == api.OK && len(m.all) == records {
				want = api.ErrMuch
			}
			was := slices.Clone(d.words)
			does(t, x, e, want)
			if want == api.OK {
				copy(was[len(m.all)*api.MaxRecord:], recordOf(named(e)))
				m.do(e)
			}
			isDisk(t, d, was)
			isLine(t, x, m.line()...)
			if by.Intn(10) == 0 {
				x = open(t, d)
				isLine(t, x, m.line()...)
			}
		}
	}
}

// TestN2Drawn has words on the disk of which most mean something, some of them changed a little: the take is that behind the records that count.
func TestN2Drawn(t *testing.T) {
	for seed := range int64(2000) {
		by := rand.New(rand.NewSource(seed))
		d := newDisk(by.Intn(30 * api.MaxRecord))
		m, counts := &model{}, true
		for i := 0; i+api.MaxRecord <= len(d.words); i += api.MaxRecord {
			e := anyEdit(by, len(m.line()))
			if by.Intn(8) > 0 {
				e = named(e)
			}
			r := recordOf(e)
			if by.Intn(30) == 0 {
				r[0] = by.Int63n(5) - 2
			}
			copy(d.words[i:], r)
			counts = counts && r[0] == 1 && e == named(e) && m.wrong(e) == api.OK
			if counts {
				m.do(e)
			}
		}
		x := open(t, d)
		isLine(t, x, m.line()...)
		// What can be done from here on tells what was undone, too.
		for range m.undone {
			if len(m.all) < d.Size()/api.MaxRecord {
				does(t, x, redo, api.OK)
				m.do(redo)
				isLine(t, x, m.line()...)
			}
		}
	}
}

// TestN3Drawn has the power go somewhere in each edit, and the take opened anew: all that was done is there, and the edit only if it was.
func TestN3Drawn(t *testing.T) {
	for seed := range int64(60) {
		by := rand.New(rand.NewSource(seed))
		d := newDisk(40*api.MaxRecord + by.Intn(api.MaxRecord))
		x, m := open(t, d), &model{}
		for len(m.all) < 40 {
			e := anyEdit(by, len(m.line()))
			if m.wrong(e) != api.OK {
				continue
			}
			if d.left = by.Intn(15); d.left < api.MaxRecord+1 {
				does(t, x, e, api.ErrPower)
				isBroken(t, x)
				does(t, x, e, api.ErrState)
				d.left = -1
				x = open(t, d)
			} else {
				does(t, x, e, api.OK)
				m.do(e)
			}
			isLine(t, x, m.line()...)
			isWithin(t, d)
		}
	}
}
