package rhythm_test

import (
	"math"
	"math/big"
	"math/rand"
	"reflect"
	"slices"
	"testing"

	"cantus/api"
	"cantus/rhythm"
)

const (
	note  = api.BeatNote
	rest  = api.BeatRest
	tie   = api.BeatTie
	group = api.BeatGroup
)

func beat(kind, share int, kids ...api.Beat) api.Beat {
	return api.Beat{Kind: kind, Share: share, Kids: kids}
}

func f(up, down int) api.Frac { return api.Frac{Up: up, Down: down} }

func span(start, long api.Frac, sounds bool) api.Span {
	return api.Span{Start: start, Long: long, Sounds: sounds}
}

// tower is so many beats, each the only kid of the one above it.
func tower(levels int, top api.Beat) api.Beat {
	for range levels - 1 {
		top = beat(group, 1, top)
	}
	return top
}

// row is a group of so many notes.
func row(notes int) api.Beat {
	return beat(group, 1, slices.Repeat([]api.Beat{beat(note, 1)}, notes)...)
}

func wrongFracs() []api.Frac {
	return []api.Frac{
		{}, f(1, 0), f(0, 2), f(2, 4), f(-2, 4), f(1, -1), f(-1, -2), f(api.MaxPart, 2), f(api.MaxPart+1, 1), f(1, api.MaxPart+1),
		f(math.MinInt, 1), f(math.MaxInt, 1), f(1, math.MinInt), f(1, math.MaxInt), f(math.MinInt, math.MinInt), f(math.MinInt, -1),
	}
}

func notAbove() []api.Frac {
	return []api.Frac{f(0, 1), f(-1, 1), f(-1, 2), f(-1, api.MaxPart), f(-api.MaxPart, 1), f(-65537, 1)}
}

func TestR1Right(t *testing.T) {
	for name, b := range map[string]api.Beat{
		"a note":              beat(note, 1),
		"a rest":              beat(rest, api.MaxShare),
		"a tie":               beat(tie, 7),
		"kids that are empty": {Kind: note, Share: 1, Kids: []api.Beat{}},
		"a group":             beat(group, 1, beat(note, 2), beat(rest, 1), beat(tie, 1)),
		"a group in a group":  beat(group, 1, beat(group, 3, beat(tie, 1))),
		"all levels":          tower(api.MaxLevel, beat(note, 1)),
		"all beats":           row(api.MaxBeats - 1),
		"all of both":         tower(api.MaxLevel-1, row(api.MaxBeats-api.MaxLevel+1)),
	} {
		if err := rhythm.Wrong(b); err != api.OK {
			t.Errorf("%s: %d", name, err)
		}
	}
}

func TestR1Wrong(t *testing.T) {
	for name, x := range map[string]struct {
		b    api.Beat
		want api.Errno
	}{
		"none at all":           {api.Beat{}, api.ErrRange},
		"one level more":        {tower(api.MaxLevel+1, beat(note, 1)), api.ErrMuch},
		"one beat more":         {row(api.MaxBeats), api.ErrMuch},
		"both, one beat more":   {tower(api.MaxLevel-1, row(api.MaxBeats-api.MaxLevel+2)), api.ErrMuch},
		"no share":              {beat(note, 0), api.ErrRange},
		"a share below":         {beat(note, -1), api.ErrRange},
		"a share above":         {beat(note, api.MaxShare+1), api.ErrRange},
		"the least share":       {beat(note, math.MinInt), api.ErrRange},
		"the greatest share":    {beat(note, math.MaxInt), api.ErrRange},
		"kind 0":                {beat(0, 1), api.ErrKind},
		"kind 5":                {beat(5, 1), api.ErrKind},
		"kind -1":               {beat(-1, 1), api.ErrKind},
		"the least kind":        {beat(math.MinInt, 1), api.ErrKind},
		"the greatest kind":     {beat(math.MaxInt, 1), api.ErrKind},
		"a group of none":       {beat(group, 1), api.ErrMany},
		"an empty group":        {api.Beat{Kind: group, Share: 1, Kids: []api.Beat{}}, api.ErrMany},
		"a note with kids":      {beat(note, 1, beat(note, 1)), api.ErrMany},
		"a rest with kids":      {beat(rest, 1, beat(note, 1)), api.ErrMany},
		"a tie with kids":       {beat(tie, 1, beat(note, 1)), api.ErrMany},
		"a kid's share":         {beat(group, 1, beat(note, 1), beat(note, 0)), api.ErrRange},
		"a kid's kind":          {beat(group, 1, beat(note, 1), beat(9, 1)), api.ErrKind},
		"a kid's kids":          {beat(group, 1, beat(note, 1), beat(group, 1)), api.ErrMany},
		"share ahead of kind":   {beat(0, 0), api.ErrRange},
		"kind ahead of kids":    {beat(0, 1, beat(note, 0)), api.ErrKind},
		"itself ahead of kids":  {beat(note, 1, beat(note, 0)), api.ErrMany},
		"share ahead of kids":   {beat(group, 0), api.ErrRange},
		"the first kid":         {beat(group, 1, beat(0, 1), beat(note, 0)), api.ErrKind},
		"a kid's kid first":     {beat(group, 1, beat(group, 1, beat(0, 1)), beat(note, 0)), api.ErrKind},
		"level ahead of share":  {tower(api.MaxLevel+1, beat(note, 0)), api.ErrMuch},
		"on the last level":     {tower(api.MaxLevel, beat(note, 0)), api.ErrRange},
		"kids of the last":      {tower(api.MaxLevel, beat(note, 1, beat(note, 1))), api.ErrMany},
		"ahead of the level":    {beat(group, 1, beat(note, 0), tower(api.MaxLevel+1, beat(note, 1))), api.ErrRange},
		"behind the level":      {beat(group, 1, tower(api.MaxLevel, beat(note, 1)), beat(note, 0)), api.ErrMuch},
		"the last beat's kind":  {beat(group, 1, append(row(api.MaxBeats-2).Kids, beat(0, 1))...), api.ErrKind},
		"one more, and no kind": {beat(group, 1, append(row(api.MaxBeats-1).Kids, beat(0, 1))...), api.ErrMuch},
	} {
		if err := rhythm.Wrong(x.b); err != x.want {
			t.Errorf("%s: %d, not %d", name, err, x.want)
		}
		for _, long := range append(wrongFracs(), f(0, 1), f(1, 1)) {
			if l, err := rhythm.Spans(x.b, long); len(l) != 0 || err != x.want {
				t.Errorf("%s, %v long: %v %d, not %d", name, long, l, err, x.want)
			}
		}
	}
}

// TestR1Round: kids that stand in themselves have levels without end.
func TestR1Round(t *testing.T) {
	for _, n := range []int{1, 2, 70} {
		kids := make([]api.Beat, n)
		for i := range kids {
			kids[i] = api.Beat{Kind: group, Share: 1, Kids: kids}
		}
		if err := rhythm.Wrong(kids[0]); err != api.ErrMuch {
			t.Errorf("%d kids: %d", n, err)
		}
		if l, err := rhythm.Spans(kids[0], f(1, 1)); len(l) != 0 || err != api.ErrMuch {
			t.Errorf("%d kids: %v %d", n, l, err)
		}
	}
	// Two kids a level, up to the last one, are far more beats than may be.
	wide := beat(note, 1)
	for range api.MaxLevel - 1 {
		wide = beat(group, 1, wide, wide)
	}
	if err := rhythm.Wrong(wide); err != api.ErrMuch {
		t.Errorf("wide: %d", err)
	}
}

func TestR2Examples(t *testing.T) {
	for name, x := range map[string]struct {
		b    api.Beat
		long api.Frac
		want []api.Span
	}{
		"a note": {beat(note, 5), f(3, 4), []api.Span{span(f(0, 1), f(3, 4), true)}},
		"a rest": {beat(rest, 5), f(api.MaxPart, 1), []api.Span{span(f(0, 1), f(api.MaxPart, 1), false)}},
		"a tie":  {beat(tie, 5), f(1, api.MaxPart), []api.Span{span(f(0, 1), f(1, api.MaxPart), false)}},
		"shares": {
			beat(group, 9, beat(note, 2), beat(rest, 1), beat(note, 3)), f(1, 2),
			[]api.Span{span(f(0, 1), f(1, 6), true), span(f(1, 6), f(1, 12), false), span(f(1, 4), f(1, 4), true)},
		},
		"alike side by side": {
			beat(group, 1, beat(rest, 1), beat(rest, 1), beat(note, 1), beat(note, 1)), f(1, 1),
			[]api.Span{span(f(0, 1), f(1, 4), false), span(f(1, 4), f(1, 4), false), span(f(1, 2), f(1, 4), true), span(f(3, 4), f(1, 4), true)},
		},
		"a note and two ties": {
			beat(group, 1, beat(note, 1), beat(tie, 1), beat(tie, 1)), f(1, 1),
			[]api.Span{span(f(0, 1), f(1, 1), true)},
		},
		"a tie behind a rest": {
			beat(group, 1, beat(note, 1), beat(rest, 1), beat(tie, 1)), f(1, 1),
			[]api.Span{span(f(0, 1), f(1, 3), true), span(f(1, 3), f(2, 3), false)},
		},
		"ties ahead of all": {
			beat(group, 1, beat(tie, 1), beat(tie, 2), beat(note, 1)), f(1, 1),
			[]api.Span{span(f(0, 1), f(3, 4), false), span(f(3, 4), f(1, 4), true)},
		},
		"a tie into a group": {
			beat(group, 1, beat(note, 1), beat(group, 3, beat(tie, 1), beat(note, 1), beat(group, 1, beat(tie, 1)))), f(1, 1),
			[]api.Span{span(f(0, 1), f(1, 2), true), span(f(1, 2), f(1, 2), true)},
		},
		"a tie behind a group": {
			beat(group, 1, beat(group, 2, beat(rest, 1), beat(note, 3)), beat(tie, 1)), f(3, 1),
			[]api.Span{span(f(0, 1), f(1, 2), false), span(f(1, 2), f(5, 2), true)},
		},
		"the greatest shares": {
			beat(group, 1, beat(note, api.MaxShare), beat(rest, api.MaxShare)), f(1, 1<<29),
			[]api.Span{span(f(0, 1), f(1, api.MaxPart), true), span(f(1, api.MaxPart), f(1, api.MaxPart), false)},
		},
		"the deepest": {tower(api.MaxLevel, beat(note, 3)), f(2, 3), []api.Span{span(f(0, 1), f(2, 3), true)}},
	} {
		if l, err := rhythm.Spans(x.b, x.long); !slices.Equal(l, x.want) || err != api.OK {
			t.Errorf("%s: %v %d, not %v", name, l, err, x.want)
		}
	}
}

func TestR2WrongLength(t *testing.T) {
	for _, b := range []api.Beat{beat(note, 1), beat(group, 1, beat(note, 1), beat(tie, 2))} {
		for _, long := range wrongFracs() {
			if l, err := rhythm.Spans(b, long); len(l) != 0 || err != api.ErrForm {
				t.Errorf("%v: %v %d", long, l, err)
			}
		}
		for _, long := range notAbove() {
			if l, err := rhythm.Spans(b, long); len(l) != 0 || err != api.ErrRange {
				t.Errorf("%v: %v %d", long, l, err)
			}
		}
	}
}

// farPlace has shares that can be told at a place that can't: a group of 1/256 begins at 1/2^20 and is shared by 2187.
func farPlace() api.Beat {
	kids := []api.Beat{beat(note, 1), beat(group, 4096, beat(note, 1), beat(note, 2186))}
	left := 1<<20 - 4097
	for ; left > api.MaxShare; left -= api.MaxShare {
		kids = append(kids, beat(note, api.MaxShare))
	}
	return beat(group, 1, append(kids, beat(note, left))...)
}

func TestR2Much(t *testing.T) {
	for name, x := range map[string]struct {
		b    api.Beat
		long api.Frac
		want api.Errno
	}{
		"a share":      {beat(group, 1, beat(note, 1), beat(note, 1)), f(1, api.MaxPart), api.ErrMuch},
		"a tie alone":  {beat(group, 1, beat(note, 1), beat(tie, 1)), f(1, api.MaxPart), api.ErrMuch},
		"a group":      {beat(group, 1, beat(group, 1, beat(note, 1)), beat(group, 2, beat(note, 1))), f(1, api.MaxPart), api.ErrMuch},
		"no sharing":   {beat(group, 1, beat(group, 7, beat(note, 9))), f(1, api.MaxPart), api.OK},
		"large parts":  {beat(group, 1, beat(note, 1), beat(note, 2)), f(api.MaxPart, api.MaxPart-1), api.ErrMuch},
		"come down":    {beat(group, 1, beat(note, 1), beat(note, 3)), f(api.MaxPart, api.MaxPart-1), api.OK},
		"a place":      {farPlace(), f(1, 1), api.ErrMuch},
		"a near place": {farPlace(), f(1<<10, 1), api.OK},
		"a length":     {beat(group, 1, beat(group, 1, beat(rest, 65535), beat(note, 1)), beat(group, 1, beat(tie, 1), beat(rest, 65534))), f(2, 1), api.ErrMuch},
		"by two ties":  {beat(group, 1, beat(group, 1, beat(rest, 65535), beat(note, 1)), beat(group, 1, beat(tie, 1), beat(tie, 65534))), f(2, 1), api.ErrMuch},
		"not tied":     {beat(group, 1, beat(group, 1, beat(rest, 65535), beat(note, 1)), beat(group, 1, beat(note, 1), beat(tie, 65534))), f(2, 1), api.OK},
	} {
		l, err := rhythm.Spans(x.b, x.long)
		if err != x.want || (err == api.OK) != (len(l) > 0) {
			t.Errorf("%s: %v %d, not %d", name, l, err, x.want)
		}
		if want, wantErr := spans(x.b, x.long); wantErr != x.want || !slices.Equal(l, want) {
			t.Errorf("%s: %v %d, not %v %d", name, l, err, want, wantErr)
		}
	}
}

// leaf is a beat that is no group, from and to where it is of the whole, which is 1.
type leaf struct {
	kind     int
	from, to *big.Rat
}

func leaves(b api.Beat, from, to *big.Rat) []leaf {
	if b.Kind != group {
		return []leaf{{b.Kind, from, to}}
	}
	all := int64(0)
	for _, kid := range b.Kids {
		all += int64(kid.Share)
	}
	var out []leaf
	place := func(shares int64) *big.Rat {
		p := new(big.Rat).Sub(to, from)
		p.Mul(p, big.NewRat(shares, all))
		return p.Add(p, from)
	}
	behind := int64(0)
	for _, kid := range b.Kids {
		out = append(out, leaves(kid, place(behind), place(behind+int64(kid.Share)))...)
		behind += int64(kid.Share)
	}
	return out
}

// lengths are those of all beats, groups too, the whole being 1.
func lengths(b api.Beat, long *big.Rat) []*big.Rat {
	out := []*big.Rat{long}
	all := int64(0)
	for _, kid := range b.Kids {
		all += int64(kid.Share)
	}
	for _, kid := range b.Kids {
		out = append(out, lengths(kid, new(big.Rat).Mul(long, big.NewRat(int64(kid.Share), all)))...)
	}
	return out
}

// spans is Spans of what is right, by numbers without bounds.
func spans(b api.Beat, long api.Frac) ([]api.Span, api.Errno) {
	whole := big.NewRat(int64(long.Up), int64(long.Down))
	much := false
	told := func(r *big.Rat) api.Frac {
		bound := big.NewInt(1 << 30)
		much = much || r.Num().Cmp(bound) > 0 || r.Denom().Cmp(bound) > 0
		return f(int(r.Num().Int64()), int(r.Denom().Int64()))
	}
	for _, l := range lengths(b, whole) {
		told(l)
	}
	var out []api.Span
	var start *big.Rat
	for _, x := range leaves(b, new(big.Rat), whole) {
		if x.kind != tie || len(out) == 0 {
			start = x.from
			out = append(out, api.Span{Sounds: x.kind == note})
		}
		told(x.from)
		last := &out[len(out)-1]
		last.Start, last.Long = told(start), told(new(big.Rat).Sub(x.to, start))
	}
	if much {
		return nil, api.ErrMuch
	}
	return out, api.OK
}

// someBeat is a right one of not many beats, with few levels.
func someBeat(r *rand.Rand, levels int) api.Beat {
	share := 1 + r.Intn(9)
	if r.Intn(8) == 0 {
		share = 1 + r.Intn(api.MaxShare)
	}
	if levels <= 1 || r.Intn(3) == 0 {
		return beat(1+r.Intn(3), share)
	}
	b := beat(group, share)
	for range 1 + r.Intn(5) {
		b.Kids = append(b.Kids, someBeat(r, levels-1))
	}
	return b
}

func TestR2Some(t *testing.T) {
	r := rand.New(rand.NewSource(5))
	longs := []api.Frac{f(1, 1), f(3, 4), f(1, 3), f(1, 1<<20), f(1<<20, 3), f(api.MaxPart, 1), f(1, api.MaxPart), f(1073741789, 1024)}
	told, much := 0, 0
	for range 20000 {
		b := someBeat(r, 1+r.Intn(5))
		long := longs[r.Intn(len(longs))]
		want, wantErr := spans(b, long)
		if l, err := rhythm.Spans(b, long); !slices.Equal(l, want) || err != wantErr {
			t.Fatalf("%v, %v long: %v %d, not %v %d", b, long, l, err, want, wantErr)
		}
		if wantErr == api.OK {
			told++
		} else {
			much++
		}
	}
	if told < 5000 || much < 1000 {
		t.Errorf("%d told, %d much", told, much)
	}
}

// TestR2Reads: what is handed in stays as it was, the room behind it too, and what is answered is new each time.
func TestR2Reads(t *testing.T) {
	fresh := func() []api.Beat {
		return []api.Beat{beat(tie, 1), beat(group, 2, beat(note, 1), beat(tie, 3)), beat(rest, 1), beat(note, 77), beat(note, 78)}
	}
	kids := fresh()
	b := api.Beat{Kind: group, Share: 1, Kids: kids[:3]}
	first, err := rhythm.Spans(b, f(3, 4))
	if err != api.OK || !reflect.DeepEqual(kids, fresh()) {
		t.Errorf("%d, %v", err, kids)
	}
	kept := slices.Clone(first)
	second, _ := rhythm.Spans(b, f(3, 4))
	clear(second[:cap(second)])
	clear(kids)
	if !slices.Equal(first, kept) {
		t.Errorf("%v was %v", first, kept)
	}
}

func TestR3All(t *testing.T) {
	for halves := range api.MaxValue + 1 {
		for dots := range api.MaxDots + 1 {
			part := big.NewRat(1, 1)
			for range halves {
				part.Mul(part, big.NewRat(1, 2))
			}
			want := new(big.Rat).Set(part)
			for range dots {
				part.Mul(part, big.NewRat(1, 2))
				want.Add(want, part)
			}
			got, err := rhythm.Length(api.Value{Halves: halves, Dots: dots})
			if got != f(int(want.Num().Int64()), int(want.Denom().Int64())) || err != api.OK {
				t.Errorf("%d halves, %d dots: %v %d, not %v", halves, dots, got, err, want)
			}
		}
	}
}

func TestR3Examples(t *testing.T) {
	for v, want := range map[api.Value]api.Frac{
		{}:                    f(1, 1),
		{Dots: 3}:             f(15, 8),
		{Halves: 2}:           f(1, 4),
		{Halves: 2, Dots: 1}:  f(3, 8),
		{Halves: 1, Dots: 2}:  f(7, 8),
		{Halves: 10}:          f(1, 1024),
		{Halves: 10, Dots: 3}: f(15, 8192),
	} {
		if got, err := rhythm.Length(v); got != want || err != api.OK {
			t.Errorf("%v: %v %d, not %v", v, got, err, want)
		}
	}
}

func TestR3Wrong(t *testing.T) {
	for _, v := range []api.Value{
		{Halves: -1}, {Halves: 11}, {Dots: -1}, {Dots: 4}, {Halves: 10, Dots: 4}, {Halves: 11, Dots: 3}, {Halves: -1, Dots: 1}, {Halves: 1, Dots: -1},
		{Halves: math.MinInt}, {Halves: math.MaxInt}, {Dots: math.MinInt}, {Dots: math.MaxInt}, {Halves: math.MaxInt, Dots: math.MaxInt}, {Halves: math.MinInt, Dots: math.MaxInt},
	} {
		if got, err := rhythm.Length(v); got != (api.Frac{}) || err != api.ErrRange {
			t.Errorf("%v: %v %d", v, got, err)
		}
	}
}

func TestR4Examples(t *testing.T) {
	for long, want := range map[api.Frac][]api.Value{
		f(1, 1):       {{}},
		f(3, 1):       {{}, {}, {}},
		f(3, 2):       {{}, {Halves: 1}},
		f(7, 4):       {{}, {Halves: 1, Dots: 1}},
		f(1, 2):       {{Halves: 1}},
		f(7, 8):       {{Halves: 1, Dots: 2}},
		f(5, 8):       {{Halves: 1}, {Halves: 3}},
		f(15, 16):     {{Halves: 1, Dots: 3}},
		f(31, 32):     {{Halves: 1, Dots: 3}, {Halves: 5}},
		f(11, 16):     {{Halves: 1}, {Halves: 3, Dots: 1}},
		f(13, 16):     {{Halves: 1, Dots: 1}, {Halves: 4}},
		f(1, 1024):    {{Halves: 10}},
		f(3, 1024):    {{Halves: 9, Dots: 1}},
		f(1023, 1024): {{Halves: 1, Dots: 3}, {Halves: 5, Dots: 3}, {Halves: 9, Dots: 1}},
	} {
		if got, err := rhythm.Write(long); !slices.Equal(got, want) || err != api.OK {
			t.Errorf("%v: %v %d, not %v", long, got, err, want)
		}
	}
}

// written is Write of so many 1 / 8192, in which each value that there is, with its dots, is whole; it tries one value behind the other.
func written(left int) []api.Value {
	var out []api.Value
	for ; left >= 8192; left -= 8192 {
		out = append(out, api.Value{})
	}
	for left > 0 {
		halves := 1
		for 8192>>halves > left {
			halves++
		}
		dots := 0
		for dots < 3 && length(halves, dots+1) <= left {
			dots++
		}
		out = append(out, api.Value{Halves: halves, Dots: dots})
		left -= length(halves, dots)
	}
	return out
}

func length(halves, dots int) int {
	out := 0
	for n := range dots + 1 {
		out += 8192 >> (halves + n)
	}
	return out
}

// TestR4All asks for all that is below four whole notes and can be written; what comes lasts as long as was asked for.
func TestR4All(t *testing.T) {
	for n := 1; n <= 4*1024; n++ {
		r := big.NewRat(int64(n), 1024)
		long := f(int(r.Num().Int64()), int(r.Denom().Int64()))
		got, err := rhythm.Write(long)
		if want := written(8 * n); !slices.Equal(got, want) || err != api.OK {
			t.Fatalf("%v: %v %d, not %v", long, got, err, want)
		}
		sum := new(big.Rat)
		for _, v := range got {
			l, _ := rhythm.Length(v)
			sum.Add(sum, big.NewRat(int64(l.Up), int64(l.Down)))
		}
		if sum.Cmp(r) != 0 {
			t.Fatalf("%v: %v last %v", long, got, sum)
		}
	}
}

func TestR4Longest(t *testing.T) {
	for _, long := range []api.Frac{f(api.MaxShare, 1), f(api.MaxShare*1024-1, 1024), f(api.MaxShare*2-1, 2)} {
		got, err := rhythm.Write(long)
		if want := written(long.Up * (8192 / long.Down)); !slices.Equal(got, want) || err != api.OK {
			t.Errorf("%v: %d values, %d", long, len(got), err)
		}
	}
}

func TestR4Wrong(t *testing.T) {
	tells := func(long api.Frac, want api.Errno) {
		t.Helper()
		if got, err := rhythm.Write(long); len(got) != 0 || err != want {
			t.Errorf("%v: %d values, %d, not %d", long, len(got), err, want)
		}
	}
	for _, long := range wrongFracs() {
		tells(long, api.ErrForm)
	}
	for _, long := range notAbove() {
		tells(long, api.ErrRange)
	}
	for _, long := range []api.Frac{f(65537, 1), f(131073, 2), f(api.MaxPart, 1), f(1<<26+1, 1024), f(-1, 3)} {
		tells(long, api.ErrRange)
	}
	// Too long is told ahead of what can't be written.
	for _, long := range []api.Frac{f(196609, 3), f(1<<27+1, 2048), f(-1, 2048)} {
		tells(long, api.ErrRange)
	}
	for _, long := range []api.Frac{f(1, 3), f(2, 3), f(1, 2048), f(4097, 2048), f(1, 1023), f(1024, 1025), f(1, api.MaxPart), f(api.MaxPart, api.MaxPart-1), f(196607, 3), f(1<<27-1, 2048), f(1, 512*3)} {
		tells(long, api.ErrNone)
	}
}

func TestR4New(t *testing.T) {
	first, _ := rhythm.Write(f(5, 2))
	kept := slices.Clone(first)
	second, _ := rhythm.Write(f(5, 2))
	for i := range second[:cap(second)] {
		second[:cap(second)][i] = api.Value{Halves: 9, Dots: 9}
	}
	if third, _ := rhythm.Write(f(5, 2)); !slices.Equal(first, kept) || !slices.Equal(third, kept) {
		t.Errorf("%v and %v were %v", first, third, kept)
	}
}
