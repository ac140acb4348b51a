package clock_test

import (
	"maps"
	"math"
	"math/big"
	"math/rand"
	"slices"
	"testing"

	"cantus/api"
	"cantus/clock"
)

func flat(at, pace int) api.Mark { return api.Mark{At: at, Pace: pace} }

func ramp(at, pace int) api.Mark { return api.Mark{At: at, Pace: pace, Ramp: true} }

func f(up, down int) api.Frac { return api.Frac{Up: up, Down: down} }

// full is as many marks as there may be, every third of them with a ramp.
func full() []api.Mark {
	var out []api.Mark
	for i := range api.MaxMarks {
		out = append(out, api.Mark{At: 5*i + i%4, Pace: 1 + i*7919%50, Ramp: i%3 == 0})
	}
	return out
}

func rightClocks() map[string][]api.Mark {
	return map[string][]api.Mark{
		"one pace":               {flat(0, 3)},
		"the least pace":         {flat(0, 1)},
		"the greatest pace":      {flat(0, api.MaxPace)},
		"a ramp into nothing":    {ramp(0, 3)},
		"two paces":              {flat(0, 3), flat(4, 7)},
		"a rise":                 {ramp(0, 1), flat(7, 12)},
		"a fall":                 {ramp(0, 12), flat(7, 1)},
		"a ramp of one tick":     {ramp(0, 2), ramp(1, 9), flat(2, 4)},
		"a ramp that stays":      {ramp(0, 5), flat(6, 5)},
		"of all kinds":           {flat(0, 3), ramp(10, 5), ramp(17, 2), flat(23, 8), ramp(40, 9)},
		"all marks":              full(),
		"the last tick of all":   {ramp(0, 1), flat(api.MaxTick, api.MaxPace)},
		"from the most to least": {ramp(0, api.MaxPace), flat(api.MaxTick, 1)},
		"most to most":           {ramp(0, api.MaxPace), ramp(api.MaxTick, api.MaxPace)},
		"an odd length":          {ramp(0, 65521), flat(1048573, 3), ramp(1048575, 1), flat(api.MaxTick, 65535)},
	}
}

type wrongClock struct {
	l    []api.Mark
	want api.Errno
}

func wrongClocks() map[string]wrongClock {
	return map[string]wrongClock{
		"nil":                   {nil, api.ErrMany},
		"empty":                 {[]api.Mark{}, api.ErrMany},
		"one too many":          {append(full(), flat(api.MaxTick, 1)), api.ErrMany},
		"many, out of range":    {make([]api.Mark, api.MaxMarks+1), api.ErrMany},
		"no pace":               {[]api.Mark{flat(0, 0)}, api.ErrRange},
		"a pace below":          {[]api.Mark{flat(0, -1)}, api.ErrRange},
		"a pace above":          {[]api.Mark{flat(0, api.MaxPace+1)}, api.ErrRange},
		"the least pace":        {[]api.Mark{flat(0, math.MinInt)}, api.ErrRange},
		"the greatest pace":     {[]api.Mark{flat(0, math.MaxInt)}, api.ErrRange},
		"a tick below":          {[]api.Mark{flat(-1, 1)}, api.ErrRange},
		"a tick above":          {[]api.Mark{flat(api.MaxTick+1, 1)}, api.ErrRange},
		"the least tick":        {[]api.Mark{flat(math.MinInt, 1)}, api.ErrRange},
		"the greatest tick":     {[]api.Mark{flat(math.MaxInt, 1)}, api.ErrRange},
		"a second tick above":   {[]api.Mark{flat(0, 1), flat(api.MaxTick+1, 1)}, api.ErrRange},
		"a second tick below":   {[]api.Mark{flat(0, 1), flat(-1, 1)}, api.ErrRange}, // ahead of ErrFit
		"a second pace":         {[]api.Mark{ramp(0, 1), flat(1, 0)}, api.ErrRange},
		"the last pace":         {append(full()[:api.MaxMarks-1], flat(api.MaxTick, api.MaxPace+1)), api.ErrRange},
		"not at 0":              {[]api.Mark{flat(1, 1)}, api.ErrFit},
		"at the end":            {[]api.Mark{flat(api.MaxTick, 1)}, api.ErrFit},
		"the same tick":         {[]api.Mark{flat(0, 1), flat(0, 1)}, api.ErrFit},
		"the same tick, behind": {[]api.Mark{flat(0, 1), ramp(5, 1), flat(5, 2)}, api.ErrFit},
		"back":                  {[]api.Mark{flat(0, 1), flat(5, 1), flat(4, 1)}, api.ErrFit},
		"back to 0":             {[]api.Mark{flat(0, 1), flat(5, 1), flat(0, 1)}, api.ErrFit},
		"not at 0, and no pace": {[]api.Mark{flat(1, 0)}, api.ErrRange},
		"the same, and no pace": {[]api.Mark{flat(0, 1), flat(0, 0)}, api.ErrRange},
		"fit ahead of a pace":   {[]api.Mark{flat(1, 1), flat(2, 0)}, api.ErrFit},
		"fit ahead of a tick":   {[]api.Mark{flat(0, 1), flat(0, 1), flat(-1, 1)}, api.ErrFit},
		"a pace ahead of fit":   {[]api.Mark{flat(0, 1), flat(1, 0), flat(1, 1)}, api.ErrRange},
	}
}

func wrongTicks() []int {
	return []int{-1, -2, math.MinInt, math.MinInt + 1, api.MaxTick + 1, api.MaxTick + 2, 1 << 32, 1 << 62, math.MaxInt}
}

func rightRates() []api.Frac {
	return []api.Frac{f(1, 1), f(7, 3), f(3, 7), f(1, 2), f(1, 97), f(441, 160), f(api.MaxRate, 1), f(1, api.MaxRate), f(api.MaxRate, api.MaxRate-1), f(api.MaxRate-1, api.MaxRate)}
}

// wrongRates are those that aren't right, and then those that are too small or too large.
func wrongRates() map[api.Frac]api.Errno {
	return map[api.Frac]api.Errno{
		{}: api.ErrForm, f(1, 0): api.ErrForm, f(0, 2): api.ErrForm, f(2, 4): api.ErrForm, f(-2, 4): api.ErrForm, f(1, -1): api.ErrForm, f(-1, -1): api.ErrForm,
		f(api.MaxRate, api.MaxRate): api.ErrForm, f(2*api.MaxRate, 2): api.ErrForm, f(api.MaxPart+1, 1): api.ErrForm, f(1, api.MaxPart+1): api.ErrForm,
		f(math.MinInt, 1): api.ErrForm, f(math.MaxInt, 1): api.ErrForm, f(1, math.MinInt): api.ErrForm, f(1, math.MaxInt): api.ErrForm, f(math.MinInt, -1): api.ErrForm,
		f(0, 1): api.ErrRange, f(-1, 1): api.ErrRange, f(-7, 3): api.ErrRange, f(-api.MaxPart, 1): api.ErrRange,
		f(api.MaxRate+1, 1): api.ErrRange, f(1, api.MaxRate+1): api.ErrRange, f(api.MaxRate+1, api.MaxRate): api.ErrRange, f(api.MaxPart, 1): api.ErrRange, f(1, api.MaxPart): api.ErrRange,
	}
}

// paceAt is the pace of mark i a number of ticks behind it, as T1 says it.
func paceAt(l []api.Mark, i, d int) *big.Rat {
	pace := big.NewRat(int64(l[i].Pace), 1)
	if !l[i].Ramp || i+1 == len(l) {
		return pace
	}
	rise := big.NewRat(int64(l[i+1].Pace-l[i].Pace), int64(l[i+1].At-l[i].At))
	return pace.Add(pace, rise.Mul(rise, big.NewRat(int64(d), 1)))
}

// summed is twice the time of each tick up to one, tick by tick: during a tick the pace goes evenly, so twice its time is the pace at its beginning and that at its end.
func summed(l []api.Mark, upTo int) []int {
	out := []int{0}
	sum, i := new(big.Rat), 0
	for at := range upTo {
		if i+1 < len(l) && l[i+1].At == at {
			i++
		}
		sum.Add(sum, paceAt(l, i, at-l[i].At))
		sum.Add(sum, paceAt(l, i, at+1-l[i].At))
		out = append(out, down(sum))
	}
	return out
}

func down(r *big.Rat) int {
	return int(new(big.Int).Div(r.Num(), r.Denom()).Int64())
}

// wide is twice the time of a tick mark by mark, as T3 says it, in numbers without bounds.
func wide(l []api.Mark, at int) int {
	sum := new(big.Rat)
	for i, m := range l {
		if m.At >= at {
			continue
		}
		last := i+1 == len(l)
		d := at - m.At
		if !last {
			d = min(d, l[i+1].At-m.At)
		}
		ticks := big.NewRat(int64(d), 1)
		sum.Add(sum, new(big.Rat).Mul(ticks, big.NewRat(int64(2*m.Pace), 1)))
		if m.Ramp && !last {
			more := big.NewRat(int64(l[i+1].Pace-m.Pace), int64(l[i+1].At-m.At))
			sum.Add(sum, more.Mul(more, ticks.Mul(ticks, ticks)))
		}
	}
	return down(sum)
}

// someTicks are those near all marks and bounds, and others: the same ones of a clock whenever it is asked for.
func someTicks(l []api.Mark) []int {
	by := rand.New(rand.NewSource(4))
	out := []int{0, 1, 2, api.MaxTick / 2, api.MaxTick - 2, api.MaxTick - 1, api.MaxTick}
	for _, m := range l {
		for at := m.At - 2; at <= m.At+2; at++ {
			if at >= 0 && at <= api.MaxTick {
				out = append(out, at)
			}
		}
	}
	for range 200 {
		out = append(out, by.Intn(api.MaxTick+1))
	}
	return out
}

// anyClock is marks that have nothing wrong, many of them close together.
func anyClock(by *rand.Rand) []api.Mark {
	far, most := 1+by.Intn(40), 1+by.Intn(20)
	if by.Intn(4) == 0 {
		far, most = 1+by.Intn(api.MaxTick/20), api.MaxPace
	}
	var out []api.Mark
	at := 0
	for range 1 + by.Intn(12) {
		out = append(out, api.Mark{At: at, Pace: 1 + by.Intn(most), Ramp: by.Intn(3) > 0})
		at += 1 + by.Intn(far)
	}
	return out
}

func TestT2Right(t *testing.T) {
	for name, l := range rightClocks() {
		if err := clock.Wrong(l); err != api.OK {
			t.Errorf("%s: %d", name, err)
		}
	}
}

// TestT2Wrong: what is wrong with marks is told by all, ahead of what else is wrong.
func TestT2Wrong(t *testing.T) {
	for name, x := range wrongClocks() {
		if err := clock.Wrong(x.l); err != x.want {
			t.Errorf("%s: %d, not %d", name, err, x.want)
		}
		for _, at := range append(wrongTicks(), 0, 1, api.MaxTick) {
			if n, err := clock.Twice(x.l, at); n != 0 || err != x.want {
				t.Errorf("%s: Twice of %d: %d %d, not %d", name, at, n, err, x.want)
			}
			for _, r := range []api.Frac{f(1, 1), f(2, 4), f(0, 1)} {
				if n, err := clock.Place(x.l, at, r); n != 0 || err != x.want {
					t.Errorf("%s: Place of %d by %v: %d %d, not %d", name, at, r, n, err, x.want)
				}
				if n, err := clock.Back(x.l, at, r); n != 0 || err != x.want {
					t.Errorf("%s: Back from %d by %v: %d %d, not %d", name, at, r, n, err, x.want)
				}
			}
		}
	}
}

func TestT3Examples(t *testing.T) {
	for name, x := range map[string]struct {
		l        []api.Mark
		at, want int
	}{
		"pace 3, tick 2":            {[]api.Mark{flat(0, 3)}, 2, 12},
		"tick 0":                    {[]api.Mark{ramp(0, 3), flat(4, 9)}, 0, 0},
		"at the next mark":          {[]api.Mark{flat(0, 3), flat(4, 9)}, 4, 24},
		"behind the next mark":      {[]api.Mark{flat(0, 3), flat(4, 9)}, 5, 42},
		"a ramp into nothing":       {[]api.Mark{ramp(0, 3)}, 7, 42},
		"a rise, a whole number":    {[]api.Mark{ramp(0, 1), flat(4, 5)}, 2, 8},
		"a rise, rounded down":      {[]api.Mark{ramp(0, 1), flat(3, 2)}, 2, 5},  // 5 1/3
		"a fall, rounded down":      {[]api.Mark{ramp(0, 2), flat(3, 1)}, 1, 3},  // 3 2/3
		"a fall, all of it":         {[]api.Mark{ramp(0, 2), flat(3, 1)}, 3, 9},  // the mean of 2 and 1
		"a fall, and behind it":     {[]api.Mark{ramp(0, 2), flat(3, 1)}, 4, 11}, // nothing of a tick is lost
		"flat ahead of another one": {[]api.Mark{flat(0, 2), ramp(3, 100)}, 2, 8},
		"the greatest":              {[]api.Mark{flat(0, api.MaxPace)}, api.MaxTick, 1 << 37},
		"the greatest, by a ramp":   {[]api.Mark{ramp(0, api.MaxPace), flat(api.MaxTick, api.MaxPace)}, api.MaxTick, 1 << 37},
		"a rise over all":           {[]api.Mark{ramp(0, 1), flat(api.MaxTick, api.MaxPace)}, api.MaxTick, (1 + api.MaxPace) << 20},
		"a fall over all":           {[]api.Mark{ramp(0, api.MaxPace), flat(api.MaxTick, 1)}, api.MaxTick, (1 + api.MaxPace) << 20},
		"a fall, its first tick":    {[]api.Mark{ramp(0, api.MaxPace), flat(api.MaxTick, 1)}, 1, 2*api.MaxPace - 1},
		"a rise, its first tick":    {[]api.Mark{ramp(0, 1), flat(api.MaxTick, api.MaxPace)}, 1, 2},
	} {
		if n, err := clock.Twice(x.l, x.at); n != x.want || err != api.OK {
			t.Errorf("%s: %d %d, not %d", name, n, err, x.want)
		}
	}
}

func TestT3WrongTick(t *testing.T) {
	for name, l := range rightClocks() {
		for _, at := range wrongTicks() {
			if n, err := clock.Twice(l, at); n != 0 || err != api.ErrRange {
				t.Errorf("%s: Twice of %d: %d %d", name, at, n, err)
			}
		}
	}
}

// TestT1TickByTick holds Twice against the paces of all ticks ahead.
func TestT1TickByTick(t *testing.T) {
	by := rand.New(rand.NewSource(1))
	clocks := slices.Collect(maps.Values(rightClocks()))
	for range 300 {
		clocks = append(clocks, anyClock(by))
	}
	for _, l := range clocks {
		for at, want := range summed(l, min(l[len(l)-1].At+5, 1500)) {
			if n, err := clock.Twice(l, at); n != want || err != api.OK {
				t.Fatalf("%v at %d: %d %d, not %d", l, at, n, err, want)
			}
		}
	}
}

// TestT3T4Wide holds Twice and Place against numbers without bounds, up to the last tick.
func TestT3T4Wide(t *testing.T) {
	by := rand.New(rand.NewSource(2))
	clocks := slices.Collect(maps.Values(rightClocks()))
	for range 100 {
		clocks = append(clocks, anyClock(by))
	}
	for _, l := range clocks {
		for _, at := range someTicks(l) {
			want := wide(l, at)
			if n, err := clock.Twice(l, at); n != want || err != api.OK {
				t.Fatalf("%v at %d: %d %d, not %d", l, at, n, err, want)
			}
			for _, r := range rightRates() {
				place := new(big.Rat).Mul(big.NewRat(int64(want), 1), big.NewRat(int64(r.Up), int64(r.Down)))
				if n, err := clock.Place(l, at, r); n != down(place) || err != api.OK {
					t.Fatalf("%v at %d by %v: %d %d, not %v", l, at, r, n, err, place)
				}
			}
		}
	}
}

func TestT4PlaceExamples(t *testing.T) {
	fall := []api.Mark{ramp(0, 2), flat(3, 1)}
	for _, x := range []struct {
		l    []api.Mark
		at   int
		r    api.Frac
		want int
	}{
		{[]api.Mark{flat(0, 3)}, 2, f(1, 1), 12},
		{[]api.Mark{flat(0, 3)}, 2, f(7, 5), 16},
		{[]api.Mark{flat(0, 3)}, 2, f(1, 13), 0},
		{fall, 1, f(3, 1), 9}, // of 3, not of 3 2/3
		{fall, 1, f(1, 2), 1},
		{[]api.Mark{flat(0, api.MaxPace)}, api.MaxTick, f(api.MaxRate, 1), 1 << 49},
		{[]api.Mark{flat(0, 1)}, api.MaxTick, f(1, api.MaxRate), 1 << 9},
		{[]api.Mark{flat(0, 1)}, api.MaxTick - 1, f(1, api.MaxRate), 1<<9 - 1},
	} {
		if n, err := clock.Place(x.l, x.at, x.r); n != x.want || err != api.OK {
			t.Errorf("%v at %d by %v: %d %d, not %d", x.l, x.at, x.r, n, err, x.want)
		}
	}
}

func TestT4PlaceWrong(t *testing.T) {
	for name, l := range rightClocks() {
		for r, want := range wrongRates() {
			for _, at := range []int{0, 1, api.MaxTick} {
				if n, err := clock.Place(l, at, r); n != 0 || err != want {
					t.Errorf("%s: Place of %d by %v: %d %d, not %d", name, at, r, n, err, want)
				}
			}
			for _, at := range wrongTicks() { // ahead of what is wrong with the rate
				if n, err := clock.Place(l, at, r); n != 0 || err != api.ErrRange {
					t.Errorf("%s: Place of %d by %v: %d %d", name, at, r, n, err)
				}
			}
		}
	}
}

func TestT4BackExamples(t *testing.T) {
	one, most := []api.Mark{flat(0, 3)}, []api.Mark{flat(0, api.MaxPace)}
	for name, x := range map[string]struct {
		l     []api.Mark
		place int
		r     api.Frac
		want  int
		err   api.Errno
	}{
		"sample 0":           {one, 0, f(1, 1), 0, api.OK},
		"sample 1":           {one, 1, f(1, 1), 1, api.OK},
		"just on a tick":     {one, 12, f(1, 1), 2, api.OK},
		"just behind it":     {one, 13, f(1, 1), 3, api.OK},
		"below 0":            {one, -1, f(1, 1), 0, api.OK},
		"the least":          {one, math.MinInt, f(1, 1), 0, api.OK},
		"the first of many":  {one, 1, f(1, 60), 10, api.OK},
		"the last sample":    {one, 6 * api.MaxTick, f(1, 1), api.MaxTick, api.OK},
		"one beyond":         {one, 6*api.MaxTick + 1, f(1, 1), 0, api.ErrNone},
		"the last of all":    {most, 1 << 49, f(api.MaxRate, 1), api.MaxTick, api.OK},
		"one beyond all":     {most, 1<<49 + 1, f(api.MaxRate, 1), 0, api.ErrNone},
		"far beyond all":     {most, 1 << 60, f(api.MaxRate, 1), 0, api.ErrNone},
		"the greatest":       {most, math.MaxInt, f(api.MaxRate, 1), 0, api.ErrNone},
		"the last, slowly":   {[]api.Mark{flat(0, 1)}, 1 << 9, f(1, api.MaxRate), api.MaxTick, api.OK},
		"one beyond, slowly": {[]api.Mark{flat(0, 1)}, 1<<9 + 1, f(1, api.MaxRate), 0, api.ErrNone},
		"rounded down":       {[]api.Mark{ramp(0, 2), flat(3, 1)}, 3, f(1, 1), 1, api.OK},
		"not rounded up":     {[]api.Mark{ramp(0, 2), flat(3, 1)}, 4, f(1, 1), 2, api.OK},
		"behind all marks":   {[]api.Mark{ramp(0, 2), flat(3, 1)}, 10, f(1, 1), 4, api.OK},
		"a ramp, one beyond": {[]api.Mark{ramp(0, 2), flat(api.MaxTick, 1)}, 3*api.MaxTick + 1, f(1, 1), 0, api.ErrNone},
	} {
		if n, err := clock.Back(x.l, x.place, x.r); n != x.want || err != x.err {
			t.Errorf("%s: %d %d, not %d %d", name, n, err, x.want, x.err)
		}
	}
}

func TestT4BackWrong(t *testing.T) {
	for name, l := range rightClocks() {
		for r, want := range wrongRates() {
			for _, place := range []int{math.MinInt, -1, 0, 1, 1 << 60, math.MaxInt} { // ahead of ErrNone
				if n, err := clock.Back(l, place, r); n != 0 || err != want {
					t.Errorf("%s: Back from %d by %v: %d %d, not %d", name, place, r, n, err, want)
				}
			}
		}
	}
}

// TestT4BackTickByTick holds Back against all ticks, one by one.
func TestT4BackTickByTick(t *testing.T) {
	by := rand.New(rand.NewSource(3))
	for range 300 {
		l := anyClock(by)
		rates := rightRates()
		r := rates[by.Intn(len(rates))]
		first, place := 0, 0
		for at := range 60 {
			n, err := clock.Place(l, at, r)
			if err != api.OK {
				t.Fatalf("%v at %d by %v: %d", l, at, r, err)
			}
			if n < place {
				t.Fatalf("%v by %v: tick %d at %d, behind one at %d", l, r, at, n, place)
			}
			if n == place {
				continue
			}
			for _, x := range []struct{ place, want int }{{place, first}, {place + 1, at}, {(place + 1 + n) / 2, at}, {n, at}} {
				if got, err := clock.Back(l, x.place, r); got != x.want || err != api.OK {
					t.Fatalf("%v by %v: back from %d is %d %d, not %d", l, r, x.place, got, err, x.want)
				}
			}
			first, place = at, n
		}
	}
}

// TestT4BackOfPlace: from where a tick falls the way goes back to it, or to one ahead that falls there too, and the tick ahead of that one falls ahead.
func TestT4BackOfPlace(t *testing.T) {
	for name, l := range rightClocks() {
		for _, at := range someTicks(l) {
			for _, r := range rightRates() {
				place, err := clock.Place(l, at, r)
				if err != api.OK {
					t.Fatalf("%s at %d by %v: %d", name, at, r, err)
				}
				back, err := clock.Back(l, place, r)
				if err != api.OK || back > at {
					t.Fatalf("%s at %d by %v: back from %d is %d %d", name, at, r, place, back, err)
				}
				if n, err := clock.Place(l, back, r); n != place || err != api.OK {
					t.Fatalf("%s by %v: back from %d is %d, at %d", name, r, place, back, n)
				}
				if back == 0 {
					continue
				}
				if n, err := clock.Place(l, back-1, r); n >= place || err != api.OK {
					t.Fatalf("%s by %v: back from %d is %d, and the tick ahead is at %d", name, r, place, back, n)
				}
			}
		}
	}
}

// TestE2OnlyRead: neither the marks nor the room behind them are changed.
func TestE2OnlyRead(t *testing.T) {
	for name, l := range rightClocks() {
		room := append(slices.Clone(l), flat(-7, -7), ramp(-8, -8))
		was := slices.Clone(room)
		part := room[:len(l)]
		clock.Wrong(part)
		clock.Twice(part, api.MaxTick)
		clock.Place(part, api.MaxTick, f(7, 3))
		clock.Back(part, 1000, f(7, 3))
		if !slices.Equal(room, was) {
			t.Errorf("%s: %v became %v", name, was, room)
		}
	}
}
