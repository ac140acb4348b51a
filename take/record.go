package take

import "cantus/api"

// record is an edit as it lies on a disk: a head; what is done; N; At, Long, and the pitch's letter, signs and octave.
type record [api.MaxRecord]int64

// recordOf is the record of an edit, with noughts for what its kind does not name.
func recordOf(e api.Edit) record {
	const head = 1
	r := record{head, int64(e.Do)}
	switch e.Do {
	case api.EditPut:
		p := e.Tone.Pitch
		return record{head, int64(e.Do), 0, int64(e.Tone.At), int64(e.Tone.Long), int64(p.Letter), int64(p.Alter), int64(p.Octave)}
	case api.EditCut:
		r[2] = int64(e.N)
	}
	return r
}

func (r record) edit() api.Edit {
	p := api.Pitch{Letter: int(r[5]), Alter: int(r[6]), Octave: int(r[7])}
	return api.Edit{Do: int(r[1]), N: int(r[2]), Tone: api.Tone{At: int(r[3]), Long: int(r[4]), Pitch: p}}
}

// read is the edit of the record that lies from a word on; false: no edit is written so.
func read(disk api.Disk, at int) (api.Edit, bool) {
	var r record
	for i := range r {
		r[i] = disk.Get(at + i)
	}
	e := r.edit()
	return e, r == recordOf(e)
}

// write puts a record from a word on; false: the power went. The head comes last, so that half a record does not count, whatever lay there.
func (r record) write(disk api.Disk, at int) bool {
	if !disk.Put(at, 0) {
		return false
	}
	for i := 1; i < len(r); i++ {
		if !disk.Put(at+i, r[i]) {
			return false
		}
	}
	return disk.Put(at, r[0])
}
