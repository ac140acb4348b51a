package wire_test

import (
	"math"
	"math/rand"
	"slices"
	"strings"
	"testing"

	"cantus/api"
	"cantus/wire"
)

// ev is an event, its numbers in the order of api.Event.
func ev(at, kind, channel, a, b int) api.Event {
	return api.Event{At: at, Kind: kind, Channel: channel, A: a, B: b}
}

var kinds = []int{api.EventOff, api.EventOn, api.EventControl, api.EventProgram, api.EventBend}

// waits are those at which the number of bytes changes, each with its bytes.
var waits = []struct {
	wait  int
	bytes string
}{
	{0, "\x00"},
	{1, "\x01"},
	{127, "\x7f"},
	{128, "\x81\x00"},
	{129, "\x81\x01"},
	{255, "\x81\x7f"},
	{256, "\x82\x00"},
	{1<<14 - 1, "\xff\x7f"},
	{1 << 14, "\x81\x80\x00"},
	{1<<14 + 128, "\x81\x81\x00"},
	{1<<21 - 1, "\xff\xff\x7f"},
	{1 << 21, "\x81\x80\x80\x00"},
	{1<<27 + 5, "\xc0\x80\x80\x05"},
	{api.MaxWait - 1, "\xff\xff\xff\x7f"},
}

// said is W2 as it is said, of right events.
func said(l []api.Event) string {
	var out strings.Builder
	for i, e := range l {
		wait := e.At
		if i > 0 {
			wait -= l[i-1].At
		}
		sevens := []int{wait % 128}
		for wait /= 128; wait > 0; wait /= 128 {
			sevens = append(sevens, 128+wait%128)
		}
		for _, n := range slices.Backward(sevens) {
			out.WriteByte(byte(n))
		}
		if i == 0 || l[i-1].Kind != e.Kind || l[i-1].Channel != e.Channel {
			out.WriteByte(byte(16*e.Kind + e.Channel))
		}
		out.WriteByte(byte(e.A))
		if e.Kind != api.EventProgram {
			out.WriteByte(byte(e.B))
		}
	}
	return out.String()
}

// randomEvents are right ones, often with the kind and the channel of the one ahead.
func randomEvents(r *rand.Rand, n int) []api.Event {
	var out []api.Event
	at, kind, channel := 0, 0, 0
	for range n {
		at += r.Intn(api.MaxWait) >> r.Intn(29)
		if kind == 0 || r.Intn(3) == 0 {
			kind, channel = kinds[r.Intn(len(kinds))], r.Intn(16)
		}
		e := ev(at, kind, channel, r.Intn(128), r.Intn(128))
		if kind == api.EventProgram {
			e.B = 0
		}
		out = append(out, e)
	}
	return out
}

// goesThere packs right events, and holds the bytes against W2 as it is said, and what comes back against the events.
func goesThere(t *testing.T, l []api.Event) {
	t.Helper()
	if err := wire.Wrong(l); err != api.OK {
		t.Fatalf("Wrong(%v) is %d", l, err)
	}
	b, err := wire.Pack(l)
	if err != api.OK || b != said(l) {
		t.Fatalf("Pack(%v) is %x, %d, not %x", l, b, err, said(l))
	}
	back, fault := wire.Unpack(b)
	if fault != (api.Fault{}) || !slices.Equal(back, l) {
		t.Fatalf("Unpack(%x) is %v, %v, not %v", b, back, fault, l)
	}
}

// isWrong: Wrong tells want, and Pack the same and nothing else.
func isWrong(t *testing.T, l []api.Event, want api.Errno) {
	t.Helper()
	if err := wire.Wrong(l); err != want {
		t.Errorf("Wrong of %d events that end with %v is %d, not %d", len(l), l[len(l)-1], err, want)
	}
	if b, err := wire.Pack(l); err != want || b != "" {
		t.Errorf("Pack of %d events that end with %v is %x, %d, not %d", len(l), l[len(l)-1], b, err, want)
	}
}

// isFault: Unpack tells this fault, and no events.
func isFault(t *testing.T, b string, err api.Errno, at int) {
	t.Helper()
	l, fault := wire.Unpack(b)
	if want := (api.Fault{Err: err, At: at}); fault != want || len(l) != 0 {
		t.Errorf("Unpack of %d bytes, %x first, is %v, %v, not %v", len(b), b[:min(len(b), 20)], l, fault, want)
	}
}

func TestW1Right(t *testing.T) {
	for kind := -1; kind <= 20; kind++ {
		for _, channel := range []int{0, 7, 15} {
			for _, a := range []int{0, 64, 127} {
				want := api.OK
				if !slices.Contains(kinds, kind) {
					want = api.ErrKind
				}
				if got := wire.Wrong([]api.Event{ev(0, kind, channel, a, 0)}); got != want {
					t.Errorf("kind %d on channel %d with A %d: %d, not %d", kind, channel, a, got, want)
				}
			}
		}
	}
	for _, l := range [][]api.Event{
		nil,
		{},
		{ev(api.MaxWait-1, 9, 0, 0, 127)},
		{ev(5, 9, 0, 0, 127), ev(5, 8, 0, 0, 127)},
		{ev(5, 14, 15, 127, 127), ev(5+api.MaxWait-1, 12, 15, 127, 0)},
		slices.Repeat([]api.Event{ev(9, 8, 1, 2, 3)}, api.MaxEvents),
	} {
		if err := wire.Wrong(l); err != api.OK {
			t.Errorf("Wrong of %d events is %d", len(l), err)
		}
	}
}

func TestW1Wrong(t *testing.T) {
	first := ev(1000, 9, 3, 60, 64)
	for _, c := range []struct {
		e    api.Event
		want api.Errno
	}{
		{ev(1000, 0, 0, 0, 0), api.ErrKind},
		{ev(1000, 7, 0, 0, 0), api.ErrKind},
		{ev(1000, 10, 0, 0, 0), api.ErrKind},
		{ev(1000, 13, 0, 0, 0), api.ErrKind},
		{ev(1000, 15, 0, 0, 0), api.ErrKind},
		{ev(1000, 16+9, 0, 0, 0), api.ErrKind},
		{ev(1000, -9, 0, 0, 0), api.ErrKind},
		{ev(1000, math.MinInt, 0, 0, 0), api.ErrKind},
		{ev(1000, 1<<32+9, 0, 0, 0), api.ErrKind},
		{ev(1000, 9, -1, 0, 0), api.ErrRange},
		{ev(1000, 9, 16, 0, 0), api.ErrRange},
		{ev(1000, 9, 0, -1, 0), api.ErrRange},
		{ev(1000, 9, 0, 128, 0), api.ErrRange},
		{ev(1000, 9, 0, 0, -1), api.ErrRange},
		{ev(1000, 9, 0, 0, 128), api.ErrRange},
		{ev(1000, 9, math.MaxInt, 0, 0), api.ErrRange},
		{ev(1000, 9, 0, math.MinInt, 0), api.ErrRange},
		{ev(1000, 12, 0, 0, 1), api.ErrRange},
		{ev(1000, 12, 0, 0, -1), api.ErrRange},
		{ev(999, 9, 0, 0, 0), api.ErrFit},
		{ev(0, 9, 0, 0, 0), api.ErrFit},
		{ev(math.MinInt, 9, 0, 0, 0), api.ErrFit},
		{ev(1000+api.MaxWait, 9, 0, 0, 0), api.ErrMuch},
		{ev(math.MaxInt, 9, 0, 0, 0), api.ErrMuch},
		{ev(0, 13, 16, 128, 128), api.ErrKind},
		{ev(math.MaxInt, 13, 0, 0, 0), api.ErrKind},
		{ev(0, 9, 16, 0, 0), api.ErrRange},
		{ev(math.MaxInt, 12, 0, 0, 1), api.ErrRange},
	} {
		isWrong(t, []api.Event{first, c.e}, c.want)
		isWrong(t, []api.Event{first, first, c.e}, c.want)
	}
	isWrong(t, []api.Event{ev(-1, 9, 0, 0, 0)}, api.ErrFit)
	isWrong(t, []api.Event{ev(math.MinInt, 9, 0, 0, 0)}, api.ErrFit)
	isWrong(t, []api.Event{ev(api.MaxWait, 9, 0, 0, 0)}, api.ErrMuch)
	isWrong(t, []api.Event{ev(math.MaxInt, 9, 0, 0, 0)}, api.ErrMuch)
}

// The first event that is wrong is told, whatever is wrong with later ones; but too many come first of all.
func TestW1Order(t *testing.T) {
	bad := []struct {
		e    api.Event
		want api.Errno
	}{
		{ev(50, 3, 0, 0, 0), api.ErrKind},
		{ev(50, 8, 0, 0, 200), api.ErrRange},
		{ev(49, 8, 0, 0, 0), api.ErrFit},
		{ev(50+api.MaxWait, 8, 0, 0, 0), api.ErrMuch},
	}
	for _, a := range bad {
		for _, b := range bad {
			isWrong(t, []api.Event{ev(50, 8, 0, 0, 0), a.e, b.e}, a.want)
		}
		many := slices.Repeat([]api.Event{a.e}, api.MaxEvents+1)
		isWrong(t, many, api.ErrMany)
	}
	right := slices.Repeat([]api.Event{ev(9, 8, 1, 2, 3)}, api.MaxEvents+1)
	isWrong(t, right, api.ErrMany)
}

func TestW2Right(t *testing.T) {
	for _, c := range []struct {
		l    []api.Event
		want string
	}{
		{nil, ""},
		{[]api.Event{}, ""},
		{[]api.Event{ev(0, 9, 0, 60, 64)}, "\x00\x90\x3c\x40"},
		{[]api.Event{ev(0, 9, 0, 60, 64), ev(0, 9, 0, 64, 64)}, "\x00\x90\x3c\x40\x00\x40\x40"},
		{[]api.Event{ev(1, 9, 0, 60, 64), ev(3, 9, 1, 60, 64)}, "\x01\x90\x3c\x40\x02\x91\x3c\x40"},
		{[]api.Event{ev(1, 9, 0, 60, 64), ev(3, 8, 0, 60, 64)}, "\x01\x90\x3c\x40\x02\x80\x3c\x40"},
		{[]api.Event{ev(0, 12, 15, 127, 0), ev(7, 12, 15, 0, 0)}, "\x00\xcf\x7f\x07\x00"},
		{[]api.Event{ev(0, 9, 0, 1, 2), ev(0, 12, 0, 3, 0), ev(0, 9, 0, 4, 5)}, "\x00\x90\x01\x02\x00\xc0\x03\x00\x90\x04\x05"},
		{[]api.Event{ev(0, 11, 4, 7, 127), ev(0, 14, 4, 0, 64)}, "\x00\xb4\x07\x7f\x00\xe4\x00\x40"},
	} {
		if b, err := wire.Pack(c.l); b != c.want || err != api.OK {
			t.Errorf("Pack(%v) is %x, %d, not %x", c.l, b, err, c.want)
		}
		goesThere(t, c.l)
	}
}

func TestW2Waits(t *testing.T) {
	for _, c := range waits {
		want := c.bytes + "\x95\x01\x02"
		if b, err := wire.Pack([]api.Event{ev(c.wait, 9, 5, 1, 2)}); b != want || err != api.OK {
			t.Errorf("Pack of an event at %d is %x, %d, not %x", c.wait, b, err, want)
		}
		want = "\xff\xff\xff\x7f\x95\x01\x02" + c.bytes + "\x03\x04"
		l := []api.Event{ev(api.MaxWait-1, 9, 5, 1, 2), ev(api.MaxWait-1+c.wait, 9, 5, 3, 4)}
		if b, err := wire.Pack(l); b != want || err != api.OK {
			t.Errorf("Pack of an event %d later is %x, %d, not %x", c.wait, b, err, want)
		}
		goesThere(t, l)
	}
}

// Every kind behind every kind, on the same channel and on another one.
func TestW2Heads(t *testing.T) {
	for _, a := range kinds {
		for _, b := range kinds {
			for _, channel := range []int{0, 6, 15} {
				goesThere(t, []api.Event{ev(3, a, 6, 10, 0), ev(3, b, channel, 20, 0), ev(4, b, channel, 21, 0)})
			}
		}
	}
}

func TestW2Random(t *testing.T) {
	r := rand.New(rand.NewSource(11))
	for i := range 300 {
		goesThere(t, randomEvents(r, i%40))
	}
	goesThere(t, randomEvents(r, api.MaxEvents))
	late := make([]api.Event, api.MaxEvents)
	for i := range late {
		late[i] = ev((i+1)*(api.MaxWait-1), 8+i%2, i%16, i%128, 127)
	}
	goesThere(t, late)
}

func TestW3Wrong(t *testing.T) {
	const on = "\x00\x90\x3c\x40"
	for _, c := range []struct {
		bytes string
		at    int
	}{
		{"\x80", 0},
		{"\x80\x00\x90\x01\x02", 0},
		{"\x80\x80\x80\x80", 0},
		{"\x81\x80\x80\x80", 3},
		{"\xff\xff\xff\xff\x7f\x90\x01\x02", 3},
		{"\xff\xff\xff\x80", 3},
		{on + "\x80\x00\x01\x02", 4},
		{on + "\x81\x80\x80\x80\x00", 7},
		{"\x00\x3c\x40", 1},
		{"\x81\x00\x7f\x40", 2},
		{"\x00\xa0\x01\x02", 1},
		{"\x00\xd0\x01", 1},
		{"\x00\xf0\x01\x02", 1},
		{"\x00\xff\x01\x02", 1},
		{on + "\x00\xa0\x01\x02", 5},
		{on + "\x00\x90\x01\x02", 5},
		{on + "\x00\x80\x01\x02\x00\x80\x01\x02", 9},
		{"\x00\xc1\x05\x00\xc1\x05", 4},
		{"\x00\x90\x80\x02", 2},
		{"\x00\x90\x01\x80", 3},
		{"\x00\xc0\x80", 2},
		{on + "\x00\x05\x90", 6},
		{"\x00", 1},
		{"\x81", 1},
		{"\x81\x80\x80", 3},
		{"\x00\x90", 2},
		{"\x00\x90\x01", 3},
		{"\x00\xc0", 2},
		{on + "\x00", 5},
		{on + "\x00\x01", 6},
		{on + "\x00\xc0", 6},
	} {
		isFault(t, c.bytes, api.ErrForm, c.at)
	}
	if l, fault := wire.Unpack(""); len(l) != 0 || fault != (api.Fault{}) {
		t.Errorf("no bytes are %v, %v", l, fault)
	}
}

// Bytes that end between two events are right; all other beginnings end too early.
func TestW3Cut(t *testing.T) {
	l := randomEvents(rand.New(rand.NewSource(3)), 60)
	ends := map[int]int{}
	for n := range len(l) + 1 {
		ends[len(said(l[:n]))] = n
	}
	whole := said(l)
	for n := range len(whole) + 1 {
		if count, ok := ends[n]; ok {
			goesThere(t, l[:count])
		} else {
			isFault(t, whole[:n], api.ErrForm, n)
		}
	}
}

func TestW3Many(t *testing.T) {
	full := said(slices.Repeat([]api.Event{ev(0, 12, 2, 7, 0)}, api.MaxEvents))
	if l, fault := wire.Unpack(full); len(l) != api.MaxEvents || fault != (api.Fault{}) {
		t.Errorf("as many events as there may be: %d of them, %v", len(l), fault)
	}
	// Whatever the next byte is, it is one too many, even where it would also be of the wrong form.
	for c := range 256 {
		isFault(t, full+string([]byte{byte(c)}), api.ErrMany, len(full))
		isFault(t, full+string([]byte{byte(c)})+"\x07", api.ErrMany, len(full))
	}
	isFault(t, full[:len(full)-1]+"\xf0\x00", api.ErrForm, len(full)-1)
	isFault(t, full[:len(full)-1], api.ErrForm, len(full)-1)
}

// letters are the bytes of which TestW3AllBytes makes all texts: they are parts, waits that go on and heads, many of them several of these.
const letters = "\x00\x05\x80\x85\x90\xc5\xf0"

// allPacked tells all lists of events whose bytes are letters and at most long many, and the beginnings of those that are longer.
func allPacked(l []api.Event, long int, tell func(l []api.Event)) {
	tell(l)
	if len(said(l)) >= long {
		return
	}
	at := 0
	if len(l) > 0 {
		at = l[len(l)-1].At
	}
	for _, wait := range letterWaits() {
		for _, head := range []byte{0x80, 0x85, 0x90, 0xc5} {
			for _, parts := range [][2]int{{0, 0}, {0, 5}, {5, 0}, {5, 5}} {
				e := ev(at+wait, int(head)/16, int(head)%16, parts[0], parts[1])
				if e.Kind != api.EventProgram || e.B == 0 {
					allPacked(append(slices.Clone(l), e), long, tell)
				}
			}
		}
	}
}

// letterWaits are those whose bytes are letters.
func letterWaits() []int {
	var out []int
	highs := []int{0}
	for range 4 {
		var next []int
		for _, high := range highs {
			out = append(out, high*128, high*128+5)
			for _, c := range []int{0x80, 0x85, 0x90, 0xc5, 0xf0} {
				if high > 0 || c > 0x80 {
					next = append(next, high*128+c-128)
				}
			}
		}
		highs = next
	}
	return out
}

// Of all texts of some letters: the events of which Pack makes them; or ErrForm at the first byte behind which no events' bytes go on.
func TestW3AllBytes(t *testing.T) {
	const long = 6
	begins, whole := map[string]bool{}, map[string][]api.Event{}
	allPacked(nil, long, func(l []api.Event) {
		b := said(l)
		if len(b) <= long {
			whole[b] = l
		}
		for n := range min(len(b), long) + 1 {
			begins[b[:n]] = true
		}
	})
	var try func(b string)
	try = func(b string) {
		l, right := whole[b]
		at := 0
		for at < len(b) && begins[b[:at+1]] {
			at++
		}
		if !right {
			isFault(t, b, api.ErrForm, at)
		} else if got, fault := wire.Unpack(b); !slices.Equal(got, l) || fault != (api.Fault{}) {
			t.Errorf("Unpack(%x) is %v, %v, not %v", b, got, fault, l)
		}
		if len(b) < long {
			for i := range len(letters) {
				try(b + letters[i:i+1])
			}
		}
	}
	try("")
}

// What comes of random bytes is what Pack makes them of, or nothing.
func TestW3Random(t *testing.T) {
	r := rand.New(rand.NewSource(5))
	for range 20000 {
		b := []byte(said(randomEvents(r, 1+r.Intn(5))))
		for range r.Intn(3) {
			b[r.Intn(len(b))] = byte(r.Intn(256))
		}
		l, fault := wire.Unpack(string(b))
		if fault.Err == api.OK {
			if back, err := wire.Pack(l); back != string(b) || err != api.OK || fault.At != 0 {
				t.Fatalf("Unpack(%x) is %v, %v, and packed that is %x, %d", b, l, fault, back, err)
			}
		} else if fault.Err != api.ErrForm || fault.At > len(b) || l != nil {
			t.Fatalf("Unpack(%x) is %v, %v", b, l, fault)
		}
	}
}

func TestE2OnlyRead(t *testing.T) {
	l := randomEvents(rand.New(rand.NewSource(1)), 20)
	room := append(slices.Clone(l), ev(1, 2, 3, 4, 5))
	given := room[:len(l)]
	wire.Wrong(given)
	b, _ := wire.Pack(given)
	if !slices.Equal(room, append(slices.Clone(l), ev(1, 2, 3, 4, 5))) {
		t.Error("what was handed in has changed")
	}
	first, _ := wire.Unpack(b)
	second, _ := wire.Unpack(b)
	clear(first[:cap(first)])
	if !slices.Equal(second, l) {
		t.Error("two answers share memory")
	}
}
