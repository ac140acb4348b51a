package stave_test

import (
	"math"
	"math/rand"
	"slices"
	"testing"

	"cantus/api"
	"cantus/stave"
)

func box(wide, give int) api.Box { return api.Box{Wide: wide, Give: give} }

// stiff is boxes that give nothing.
func stiff(wides ...int) []api.Box {
	var out []api.Box
	for _, n := range wides {
		out = append(out, box(n, 0))
	}
	return out
}

// same is a box, n times.
func same(b api.Box, n int) []api.Box { return slices.Repeat([]api.Box{b}, n) }

// lineCost is V2 as it is said, of the boxes from one place to another one, with whether they are a line that fits.
func lineCost(l []api.Box, wide, from, to int) (int, bool) {
	n, give := 0, 0
	for _, b := range l[from:to] {
		n += b.Wide
		give += b.Give
	}
	cost := (wide - n) * (wide - n)
	if n > wide {
		cost = 4 * (n - wide) * (n - wide)
	} else if to == len(l) {
		cost = 0
	}
	return cost, from < to && n-give <= wide
}

// allBreaks tells the ends of all ways to break right boxes into lines that fit, with what they cost.
func allBreaks(l []api.Box, wide int, ends []int, cost int, tell func(ends []int, cost int)) {
	from := 0
	if len(ends) > 0 {
		from = ends[len(ends)-1]
	}
	if from == len(l) {
		tell(ends, cost)
		return
	}
	for to := from + 1; to <= len(l); to++ {
		if n, fits := lineCost(l, wide, from, to); fits {
			allBreaks(l, wide, append(slices.Clone(ends), to), cost+n, tell)
		}
	}
}

// longerFirst is whether of two ways to break the first line that is not as long as the other's is longer in a.
func longerFirst(a, b []int) bool {
	for i := range min(len(a), len(b)) {
		if a[i] != b[i] {
			return a[i] > b[i]
		}
	}
	return false
}

// least is what the boxes from each place on cost at least, and in how many lines at least at that cost; of a place from which there is no way on the lines are below 0.
func least(l []api.Box, wide int) (costs, lines []int) {
	costs, lines = make([]int, len(l)+1), make([]int, len(l)+1)
	for from := len(l) - 1; from >= 0; from-- {
		lines[from] = -1
		for to := from + 1; to <= len(l); to++ {
			n, fits := lineCost(l, wide, from, to)
			if !fits || lines[to] < 0 {
				continue
			}
			n += costs[to]
			if lines[from] < 0 || n < costs[from] || n == costs[from] && 1+lines[to] < lines[from] {
				costs[from], lines[from] = n, 1+lines[to]
			}
		}
	}
	return costs, lines
}

func anyBoxes(by *rand.Rand, n, wide int) []api.Box {
	var out []api.Box
	for range n {
		w := 1 + by.Intn(wide)
		give := 0
		switch by.Intn(3) {
		case 0:
			give = by.Intn(w + 1)
		case 1:
			give = w / 4
		}
		out = append(out, box(w, give))
	}
	return out
}

func isBreak(t *testing.T, name string, l []api.Box, wide int, want []int, wantCost int, wantErr api.Errno) {
	t.Helper()
	ends, cost, err := stave.Break(l, wide)
	if !slices.Equal(ends, want) || cost != wantCost || err != wantErr {
		t.Errorf("%s: %v %d %d, not %v %d %d", name, ends, cost, err, want, wantCost, wantErr)
	}
}

func isCost(t *testing.T, name string, l []api.Box, wide int, ends []int, want int, wantErr api.Errno) {
	t.Helper()
	if cost, err := stave.Cost(l, wide, ends); cost != want || err != wantErr {
		t.Errorf("%s: %d %d, not %d %d", name, cost, err, want, wantErr)
	}
}

func TestV1Right(t *testing.T) {
	for name, x := range map[string]struct {
		l    []api.Box
		wide int
	}{
		"nil":                 {nil, 9},
		"empty":               {[]api.Box{}, 9},
		"the least width":     {stiff(3), 1},
		"the greatest width":  {stiff(3), api.MaxWide},
		"the least box":       {stiff(1), 9},
		"the greatest box":    {stiff(api.MaxWide), 9},
		"gives all":           {[]api.Box{box(5, 5)}, 9},
		"the greatest, gives": {[]api.Box{box(api.MaxWide, api.MaxWide)}, 9},
		"as many as may be":   {same(box(3, 1), api.MaxBoxes), 9},
	} {
		if err := stave.Wrong(x.l, x.wide); err != api.OK {
			t.Errorf("%s: %d", name, err)
		}
	}
}

// wrongs are boxes and widths of which something is wrong.
func wrongs() map[string]struct {
	l    []api.Box
	wide int
	want api.Errno
} {
	many := same(box(3, 1), api.MaxBoxes+1)
	return map[string]struct {
		l    []api.Box
		wide int
		want api.Errno
	}{
		"too many":                   {many, 9, api.ErrMany},
		"too many, width too small":  {many, 0, api.ErrMany},
		"too many, all wrong":        {make([]api.Box, api.MaxBoxes+1), -1, api.ErrMany},
		"width 0":                    {stiff(3), 0, api.ErrRange},
		"width 0, no boxes":          {nil, 0, api.ErrRange},
		"width below 0":              {stiff(3), -9, api.ErrRange},
		"width too great":            {stiff(3), api.MaxWide + 1, api.ErrRange},
		"the least width there is":   {stiff(3), math.MinInt, api.ErrRange},
		"the greatest there is":      {stiff(3), math.MaxInt, api.ErrRange},
		"a box of nothing":           {stiff(0), 9, api.ErrRange},
		"a box below nothing":        {stiff(-1), 9, api.ErrRange},
		"a box too wide":             {stiff(api.MaxWide + 1), 9, api.ErrRange},
		"the widest there is":        {stiff(math.MaxInt), 9, api.ErrRange},
		"the least there is":         {stiff(math.MinInt), 9, api.ErrRange},
		"gives below nothing":        {[]api.Box{box(3, -1)}, 9, api.ErrRange},
		"gives more than it is wide": {[]api.Box{box(3, 4)}, 9, api.ErrRange},
		"gives the most there is":    {[]api.Box{box(3, math.MaxInt)}, 9, api.ErrRange},
		"gives the least there is":   {[]api.Box{box(3, math.MinInt)}, 9, api.ErrRange},
		"both below nothing":         {[]api.Box{box(-2, -2)}, 9, api.ErrRange},
		"the last box":               {append(same(box(3, 1), api.MaxBoxes-1), box(0, 0)), 9, api.ErrRange},
		"the second of three":        {[]api.Box{box(3, 1), box(3, 4), box(3, 1)}, 9, api.ErrRange},
		"and boxes that do not fit":  {stiff(10, 0), 9, api.ErrRange},
	}
}

// TestV1Wrong: what is wrong is told by all three, and ahead of all else.
func TestV1Wrong(t *testing.T) {
	for name, x := range wrongs() {
		if err := stave.Wrong(x.l, x.wide); err != x.want {
			t.Errorf("%s: %d, not %d", name, err, x.want)
		}
		isBreak(t, name, x.l, x.wide, nil, 0, x.want)
		for _, ends := range [][]int{nil, {0}, {1}, {len(x.l)}, {1, len(x.l)}, {len(x.l) + 1}} {
			isCost(t, name, x.l, x.wide, ends, 0, x.want)
		}
	}
}

func TestV2Costs(t *testing.T) {
	for name, x := range map[string]struct {
		l       []api.Box
		wide    int
		ends    []int
		want    int
		wantErr api.Errno
	}{
		"the last one, too short":        {stiff(3), 9, []int{1}, 0, api.OK},
		"the last one, full":             {stiff(9), 9, []int{1}, 0, api.OK},
		"the last one, one over":         {[]api.Box{box(10, 1)}, 9, []int{1}, 4, api.OK},
		"the last one, three over":       {[]api.Box{box(8, 1), box(4, 2)}, 9, []int{2}, 36, api.OK},
		"not the last one, short by one": {stiff(8, 3), 9, []int{1, 2}, 1, api.OK},
		"not the last one, short by six": {stiff(3, 3), 9, []int{1, 2}, 36, api.OK},
		"not the last one, full":         {stiff(4, 5, 3), 9, []int{2, 3}, 0, api.OK},
		"not the last one, one over":     {[]api.Box{box(10, 5), box(3, 0)}, 9, []int{1, 2}, 4, api.OK},
		"not the last one, two over":     {[]api.Box{box(5, 1), box(6, 1), box(3, 0)}, 9, []int{2, 3}, 16, api.OK},
		"gives, and need not":            {[]api.Box{box(7, 7), box(3, 0)}, 9, []int{1, 2}, 4, api.OK},
		"gives just enough":              {[]api.Box{box(20, 11)}, 9, []int{1}, 484, api.OK},
		"gives one too little":           {[]api.Box{box(20, 10)}, 9, []int{1}, 0, api.ErrNone},
		"gives nothing, one over":        {stiff(10), 9, []int{1}, 0, api.ErrNone},
		"one gives for the other":        {[]api.Box{box(5, 0), box(5, 1)}, 9, []int{2}, 4, api.OK},
		"the first one does not fit":     {stiff(5, 5, 9), 9, []int{2, 3}, 0, api.ErrNone},
		"the second one does not fit":    {stiff(9, 5, 5), 9, []int{1, 3}, 0, api.ErrNone},
		"costs are added":                {stiff(8, 7, 6, 5), 9, []int{1, 2, 3, 4}, 1 + 4 + 9, api.OK},
	} {
		isCost(t, name, x.l, x.wide, x.ends, x.want, x.wantErr)
	}
}

// TestV2Greatest: nothing wraps round where all is as great as may be.
func TestV2Greatest(t *testing.T) {
	l := same(box(api.MaxWide, api.MaxWide), api.MaxBoxes)
	over := api.MaxBoxes*api.MaxWide - 1
	isCost(t, "all in one line", l, 1, []int{api.MaxBoxes}, 4*over*over, api.OK)
	var each []int
	for i := range l {
		each = append(each, i+1)
	}
	isCost(t, "each in its own", l, 1, each, api.MaxBoxes*4*(api.MaxWide-1)*(api.MaxWide-1), api.OK)
	isBreak(t, "best", l, 1, each, api.MaxBoxes*4*(api.MaxWide-1)*(api.MaxWide-1), api.OK)
	short := same(box(1, 0), api.MaxBoxes)
	isCost(t, "each far too short", short, api.MaxWide, each, (api.MaxBoxes-1)*(api.MaxWide-1)*(api.MaxWide-1), api.OK)
	isBreak(t, "all in one", short, api.MaxWide, []int{api.MaxBoxes}, 0, api.OK)
}

func TestV3Ends(t *testing.T) {
	three := stiff(3, 3, 3)
	for name, x := range map[string]struct {
		l    []api.Box
		ends []int
		want api.Errno
	}{
		"one line":                         {three, []int{3}, api.OK},
		"three lines":                      {three, []int{1, 2, 3}, api.OK},
		"no lines":                         {three, nil, api.ErrFit},
		"boxes left":                       {three, []int{1, 2}, api.ErrFit},
		"the first line has none":          {three, []int{0, 3}, api.ErrFit},
		"another one has none":             {three, []int{1, 1, 3}, api.ErrFit},
		"the last one has none":            {three, []int{3, 3}, api.ErrFit},
		"back":                             {three, []int{2, 1, 3}, api.ErrFit},
		"below 0":                          {three, []int{-1, 3}, api.ErrFit},
		"the least there is":               {three, []int{1, math.MinInt, 3}, api.ErrFit},
		"there are not so many":            {three, []int{4}, api.ErrFit},
		"there are not so many, behind":    {three, []int{1, 4}, api.ErrFit},
		"the greatest there is":            {three, []int{math.MaxInt}, api.ErrFit},
		"no boxes, no lines":               {nil, nil, api.OK},
		"no boxes, no lines, empty":        {[]api.Box{}, []int{}, api.OK},
		"no boxes, a line of none":         {nil, []int{0}, api.ErrFit},
		"no boxes, a line":                 {nil, []int{1}, api.ErrFit},
		"does not fit, boxes left":         {stiff(10, 3), []int{1}, api.ErrNone},
		"does not fit, then has none":      {stiff(10, 3), []int{1, 1, 2}, api.ErrNone},
		"does not fit, then not so many":   {stiff(10, 3), []int{1, 3}, api.ErrNone},
		"has none, then does not fit":      {stiff(10, 3), []int{0, 1, 2}, api.ErrFit},
		"not so many, and would not fit":   {stiff(10, 3), []int{3}, api.ErrFit},
		"boxes left, which would not fit":  {stiff(3, 10), []int{1}, api.ErrFit},
		"has none, behind one that fits":   {stiff(3, 10), []int{1, 1, 2}, api.ErrFit},
		"more lines than there are boxes":  {three, []int{1, 2, 3, 4}, api.ErrFit},
		"many more, and none of them ends": {three, make([]int, 5000), api.ErrFit},
	} {
		want := 0
		if name == "three lines" {
			want = 36 + 36
		}
		isCost(t, name, x.l, 9, x.ends, want, x.want)
	}
}

// TestV3AsItIsSaid holds Cost against V3 as it is said, of made-up ends.
func TestV3AsItIsSaid(t *testing.T) {
	by := rand.New(rand.NewSource(1))
	seen := map[api.Errno]int{}
	for range 20000 {
		wide := 1 + by.Intn(20)
		l := anyBoxes(by, by.Intn(8), 12)
		var ends []int
		for at := 0; at < len(l); {
			at += 1 + by.Intn(2) - by.Intn(12)/11
			ends = append(ends, at)
		}
		want, wantErr, from := 0, api.OK, 0
		for _, to := range ends {
			if to <= from || to > len(l) {
				wantErr = api.ErrFit
				break
			}
			n, fits := lineCost(l, wide, from, to)
			if !fits {
				wantErr = api.ErrNone
				break
			}
			want, from = want+n, to
		}
		if wantErr == api.OK && from < len(l) {
			wantErr = api.ErrFit
		}
		if wantErr != api.OK {
			want = 0
		}
		if cost, err := stave.Cost(l, wide, ends); cost != want || err != wantErr {
			t.Fatalf("%v %d %v: %d %d, not %d %d", l, wide, ends, cost, err, want, wantErr)
		}
		seen[wantErr]++
	}
	for _, e := range []api.Errno{api.OK, api.ErrFit, api.ErrNone} {
		if seen[e] < 500 {
			t.Errorf("only %d were made up that answer %d", seen[e], e)
		}
	}
}

func TestV4Examples(t *testing.T) {
	for name, x := range map[string]struct {
		l    []api.Box
		wide int
		ends []int
		cost int
	}{
		"the document's":                {stiff(3, 3), 4, []int{1, 2}, 1},
		"nil":                           {nil, 4, nil, 0},
		"empty":                         {[]api.Box{}, 4, nil, 0},
		"one box":                       {stiff(3), 4, []int{1}, 0},
		"one box that must give":        {[]api.Box{box(5, 1)}, 4, []int{1}, 4},
		"not as full as can be":         {stiff(3, 2, 2, 5), 6, []int{1, 3, 4}, 9 + 4},
		"better over than short":        {[]api.Box{box(5, 1), box(2, 1), box(5, 1)}, 6, []int{2, 3}, 4},
		"better short than over":        {[]api.Box{box(5, 1), box(3, 2), box(5, 0)}, 6, []int{1, 2, 3}, 1 + 9},
		"the last line is over":         {[]api.Box{box(6, 0), box(3, 1), box(4, 1)}, 6, []int{1, 3}, 4},
		"as dear: fewer lines":          {[]api.Box{box(2, 0), box(3, 1)}, 4, []int{2}, 4},
		"as dear: the first one longer": {[]api.Box{box(2, 0), box(3, 1), box(1, 0)}, 4, []int{2, 3}, 4},
	} {
		isBreak(t, name, x.l, x.wide, x.ends, x.cost, api.OK)
		isCost(t, name, x.l, x.wide, x.ends, x.cost, api.OK)
	}
}

func TestV4None(t *testing.T) {
	for name, l := range map[string][]api.Box{
		"one box":       stiff(10),
		"the first one": stiff(10, 3, 3),
		"the last one":  stiff(3, 3, 10),
		"one between":   stiff(3, 10, 3),
		"gives, but not enough": {
			box(3, 3), box(20, 10), box(3, 3),
		},
		"many ways up to it": append(same(box(1, 1), api.MaxBoxes-1), box(10, 0)),
	} {
		isBreak(t, name, l, 9, nil, 0, api.ErrNone)
	}
}

// TestV4AllBreaks holds Break against all ways to break, one by one, and sees to it that often some cost as much as the best.
func TestV4AllBreaks(t *testing.T) {
	by := rand.New(rand.NewSource(2))
	var none, byLines, byLonger int
	for range 6000 {
		wide := 1 + by.Intn(12)
		l := anyBoxes(by, by.Intn(10), 1+by.Intn(8))
		var best []int
		bestCost, exists := 0, false
		fewer, longer := false, false
		allBreaks(l, wide, nil, 0, func(ends []int, cost int) {
			better := !exists || cost < bestCost
			if better {
				fewer, longer = false, false
			} else if cost == bestCost && len(ends) != len(best) {
				better = len(ends) < len(best)
				fewer = true
			} else if cost == bestCost {
				better = longerFirst(ends, best)
				longer = true
			}
			if better {
				best, bestCost, exists = ends, cost, true
			}
		})
		want := api.OK
		if !exists {
			want = api.ErrNone
			none++
		}
		if ends, cost, err := stave.Break(l, wide); !slices.Equal(ends, best) || cost != bestCost || err != want {
			t.Fatalf("%v %d: %v %d %d, not %v %d %d", l, wide, ends, cost, err, best, bestCost, want)
		}
		byLines += count(fewer)
		byLonger += count(longer)
	}
	if none < 100 || byLines < 20 || byLonger < 20 {
		t.Errorf("there are none in %d, %d are as dear in more lines, %d in as many", none, byLines, byLonger)
	}
}

func count(b bool) int {
	if b {
		return 1
	}
	return 0
}

// TestV4Longer: of more boxes than all ways could be gone through, the lines cost the least, are the fewest, and at none of them a longer one would do as well.
func TestV4Longer(t *testing.T) {
	by := rand.New(rand.NewSource(3))
	found := 0
	for range 200 {
		wide := 5 + by.Intn(40)
		l := anyBoxes(by, 20+by.Intn(60), 1+by.Intn(15))
		costs, lines := least(l, wide)
		ends, cost, err := stave.Break(l, wide)
		if lines[0] < 0 {
			if len(ends) != 0 || cost != 0 || err != api.ErrNone {
				t.Fatalf("%v %d: %v %d %d, and there are none", l, wide, ends, cost, err)
			}
			continue
		}
		found++
		if again, errAgain := stave.Cost(l, wide, ends); cost != costs[0] || len(ends) != lines[0] || err != api.OK || again != cost || errAgain != api.OK {
			t.Fatalf("%v %d: %v %d %d (%d %d), not %d in %d lines", l, wide, ends, cost, err, again, errAgain, costs[0], lines[0])
		}
		from := 0
		for _, end := range ends {
			for to := end + 1; to <= len(l); to++ {
				n, fits := lineCost(l, wide, from, to)
				if fits && lines[to] == lines[from]-1 && n+costs[to] == costs[from] {
					t.Fatalf("%v %d: %v, but behind %d an end at %d is as good", l, wide, ends, from, to)
				}
			}
			from = end
		}
	}
	if found < 100 {
		t.Errorf("lines exist in %d of 200", found)
	}
}

// TestV4AsManyAsMayBe: of as many boxes as there may be.
func TestV4AsManyAsMayBe(t *testing.T) {
	by := rand.New(rand.NewSource(4))
	l := anyBoxes(by, api.MaxBoxes, 10)
	for _, wide := range []int{10, 97, 1000, api.MaxWide} {
		costs, lines := least(l, wide)
		ends, cost, err := stave.Break(l, wide)
		if again, _ := stave.Cost(l, wide, ends); cost != costs[0] || len(ends) != lines[0] || again != cost || err != api.OK {
			t.Errorf("%d: %d (%d) in %d lines, %d, not %d in %d", wide, cost, again, len(ends), err, costs[0], lines[0])
		}
	}
	var pairs []int
	for i := 2; i <= api.MaxBoxes; i += 2 {
		pairs = append(pairs, i)
	}
	isBreak(t, "two and two", same(box(5, 0), api.MaxBoxes), 10, pairs, 0, api.OK)
	// Whichever line is the one of a single box costs as much: it comes last.
	odd := append(slices.Clone(pairs[:len(pairs)-1]), api.MaxBoxes-1)
	isBreak(t, "one left over", same(box(5, 0), api.MaxBoxes-1), 10, odd, 0, api.OK)
}

// TestE2OnlyRead: neither boxes nor ends nor the room behind them are changed, and what is answered is new memory.
func TestE2OnlyRead(t *testing.T) {
	by := rand.New(rand.NewSource(5))
	room := append(anyBoxes(by, 40, 9), box(-7, -7), box(-8, -8))
	was := slices.Clone(room)
	l := room[:40]
	stave.Wrong(l, 12)
	ends, cost, err := stave.Break(l, 12)
	if err != api.OK {
		t.Fatal(err)
	}
	first := slices.Clone(ends)
	endsRoom := append(slices.Clone(ends), -9, -10)
	stave.Cost(l, 12, endsRoom[:len(ends)])
	if !slices.Equal(room, was) || !slices.Equal(endsRoom, append(slices.Clone(first), -9, -10)) {
		t.Errorf("%v became %v, %v became %v", was, room, first, endsRoom)
	}
	for i := range ends[:cap(ends)] {
		ends[:cap(ends)][i] = -1
	}
	if !slices.Equal(room, was) {
		t.Errorf("%v became %v", was, room)
	}
	isBreak(t, "again", l, 12, first, cost, api.OK)
}
