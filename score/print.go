package score

import (
	"strconv"
	"strings"

	"cantus/api"
	"cantus/pitch"
)

// Print writes a piece.
func Print(l []api.Voice) (string, api.Errno) {
	if err := Wrong(l); err != api.OK {
		return "", err
	}
	var w writer
	for _, v := range l {
		w.WriteString(voiceWord + " " + v.Name + "\n")
		for _, b := range v.Bars {
			w.bar(b)
			// Asked bar by bar, as a piece may be far longer than a text.
			if w.Len() > api.MaxText {
				return "", api.ErrMuch
			}
		}
	}
	if w.Len() > api.MaxText {
		return "", api.ErrMuch
	}
	return w.String(), api.OK
}

// writer is handed what has nothing wrong, so that each pitch and each interval can be written.
type writer struct{ strings.Builder }

func (w *writer) bar(b api.Bar) {
	w.WriteString("| " + strconv.Itoa(b.Up) + "/" + strconv.Itoa(b.Down) + " ")
	w.items(b.Items)
	w.WriteString("\n")
}

func (w *writer) items(l []api.Item) {
	for i, it := range l {
		if i > 0 {
			w.WriteString(" ")
		}
		w.item(it)
	}
}

func (w *writer) item(it api.Item) {
	w.thing(it)
	if it.Share != 1 {
		w.WriteString("*" + strconv.Itoa(it.Share))
	}
	if it.Lyric != "" {
		w.WriteString(` "` + it.Lyric + `"`)
	}
}

func (w *writer) thing(it api.Item) {
	switch it.Kind {
	case api.ItemNote:
		w.chord(it.Pitches)
	case api.ItemRest:
		w.WriteString(restWord)
	case api.ItemTie:
		w.WriteString("~")
	case api.ItemMoved:
		name, _ := pitch.Name(it.By)
		w.WriteString(movedWord + " " + name + " ")
		w.group(it.Kids)
	case api.ItemGroup:
		w.group(it.Kids)
	}
}

func (w *writer) group(l []api.Item) {
	w.WriteString("[")
	w.items(l)
	w.WriteString("]")
}

func (w *writer) chord(l []api.Pitch) {
	var names []string
	for _, p := range l {
		name, _ := pitch.Print(p)
		names = append(names, name)
	}
	all := strings.Join(names, " ")
	if len(l) > 1 {
		all = "<" + all + ">"
	}
	w.WriteString(all)
}
