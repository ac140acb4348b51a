package rules_test

import (
	"math"
	"math/big"
	"math/rand"
	"slices"
	"testing"

	"cantus/api"
	"cantus/rules"
)

// free are the rules that forbid nothing of their own.
func free() api.Rules { return api.Rules{High: api.MaxKey, Leap: api.MaxKey, Classes: 4095} }

func with(change func(r *api.Rules)) api.Rules {
	r := free()
	change(&r)
	return r
}

// same is a line of one key.
func same(key, n int) []int { return slices.Repeat([]int{key}, n) }

// theme is a given voice of n keys that goes up and down.
func theme(n int) []int {
	out := make([]int, n)
	for i := range out {
		out[i] = 60 + i*i*5%17 - i%3
	}
	return out
}

// broken is L2 as it is said, one rule behind the other, of whole lines.
func broken(r api.Rules, given, line []int, i int) int {
	far := func(a, b int) int {
		if a < b {
			return b - a
		}
		return a - b
	}
	key := line[i]
	s := far(key, given[i]) % 12
	if key < r.Low || key > r.High || r.Classes&(1<<(key%12)) == 0 {
		return api.BreakRange
	}
	if r.Above && key < given[i] {
		return api.BreakCross
	}
	if slices.Contains([]int{1, 2, 5, 6, 10, 11}, s) {
		return api.BreakSound
	}
	if i == 0 && s != 0 && s != 7 {
		return api.BreakEnds
	}
	if i == len(given)-1 && s != 0 {
		return api.BreakEnds
	}
	if i == 0 {
		return 0
	}
	if far(key, line[i-1]) > r.Leap || far(key, line[i-1]) == 6 {
		return api.BreakLeap
	}
	if key != line[i-1] && (s == 0 || s == 7) && far(line[i-1], given[i-1])%12 == s {
		return api.BreakParallel
	}
	if i >= 2 && line[i-1] == key && line[i-2] == key {
		return api.BreakRepeat
	}
	return 0
}

func firstBroken(r api.Rules, given, line []int) (what, at int) {
	for i := range line {
		if what := broken(r, given, line, i); what != 0 {
			return what, i
		}
	}
	return 0, 0
}

// allLines goes through every list of keys, in order, and leaves a list as soon as one of its places is broken.
func allLines(r api.Rules, given, line []int, tell func(line []int)) {
	if len(line) == len(given) {
		tell(line)
		return
	}
	for key := range api.MaxKey + 1 {
		more := append(slices.Clone(line), key)
		if broken(r, given, more, len(line)) == 0 {
			allLines(r, given, more, tell)
		}
	}
}

// endings is how many lines that break nothing begin with these keys, counted forwards by the last two of them, without a bound.
func endings(r api.Rules, given, begin []int) *big.Int {
	type pair [2]int
	if what, _ := firstBroken(r, given, begin); what != 0 {
		return new(big.Int)
	}
	ways := map[pair]*big.Int{{-1, -1}: big.NewInt(1)}
	if n := len(begin); n == 1 {
		ways = map[pair]*big.Int{{-1, begin[0]}: big.NewInt(1)}
	} else if n > 1 {
		ways = map[pair]*big.Int{{begin[n-2], begin[n-1]}: big.NewInt(1)}
	}
	for i := len(begin); i < len(given); i++ {
		next := map[pair]*big.Int{}
		for p, n := range ways {
			for key := range api.MaxKey + 1 {
				line := make([]int, i+1)
				line[i] = key
				if i > 0 {
					line[i-1] = p[1]
				}
				if i > 1 {
					line[i-2] = p[0]
				}
				if broken(r, given, line, i) != 0 {
					continue
				}
				to := pair{p[1], key}
				if next[to] == nil {
					next[to] = new(big.Int)
				}
				next[to].Add(next[to], n)
			}
		}
		ways = next
	}
	sum := new(big.Int)
	for _, n := range ways {
		sum.Add(sum, n)
	}
	return sum
}

func capped(n *big.Int) int {
	if n.Cmp(big.NewInt(api.MaxCount)) > 0 {
		return api.MaxCount
	}
	return int(n.Int64())
}

// anyRules are rules with nothing wrong, High at most so wide above Low.
func anyRules(by *rand.Rand, wide int) api.Rules {
	r := api.Rules{Low: by.Intn(api.MaxKey - wide), Above: by.Intn(3) == 0, Leap: by.Intn(14), Classes: 4095}
	r.High = r.Low + by.Intn(wide+1)
	switch by.Intn(4) {
	case 0:
		r.Classes = by.Intn(4096)
	case 1:
		r.Classes = 0xab5 // the white keys
	}
	if by.Intn(4) == 0 {
		r.Leap = 127
	}
	return r
}

// anyGiven is keys near the rules' own ones.
func anyGiven(by *rand.Rand, r api.Rules, n int) []int {
	out := make([]int, n)
	for i := range out {
		key := r.Low - 6 + by.Intn(r.High-r.Low+13)
		out[i] = max(0, min(api.MaxKey, key))
		if i > 0 && by.Intn(5) == 0 {
			out[i] = out[i-1]
		}
	}
	return out
}

func TestL1Right(t *testing.T) {
	for name, x := range map[string]struct {
		r     api.Rules
		given []int
	}{
		"free":               {free(), []int{60}},
		"the least key":      {free(), []int{0}},
		"the greatest key":   {free(), []int{api.MaxKey}},
		"as many as may be":  {free(), same(60, api.MaxLine)},
		"all noughts":        {api.Rules{}, []int{0}},
		"one key alone":      {with(func(r *api.Rules) { r.Low, r.High = 127, 127 }), []int{60}},
		"no leap":            {with(func(r *api.Rules) { r.Leap = 0 }), []int{60}},
		"the greatest leap":  {with(func(r *api.Rules) { r.Leap = math.MaxInt }), []int{60, 61}},
		"no classes":         {with(func(r *api.Rules) { r.Classes = 0 }), []int{60}},
		"given out of range": {with(func(r *api.Rules) { r.Low, r.High = 60, 70 }), []int{0, 127}},
	} {
		if err := rules.Wrong(x.r, x.given); err != api.OK {
			t.Errorf("%s: %d", name, err)
		}
	}
}

// TestL1Wrong: what is wrong is told by all, ahead of what else is wrong.
func TestL1Wrong(t *testing.T) {
	low := with(func(r *api.Rules) { r.Low = -1 })
	for name, x := range map[string]struct {
		r     api.Rules
		given []int
		want  api.Errno
	}{
		"nil":                    {free(), nil, api.ErrMany},
		"empty":                  {free(), []int{}, api.ErrMany},
		"one too many":           {free(), same(60, api.MaxLine+1), api.ErrMany},
		"nil, wrong rules":       {low, nil, api.ErrMany},
		"too many, out of range": {free(), same(128, api.MaxLine+1), api.ErrMany},
		"a key below":            {free(), []int{60, -1, 60}, api.ErrRange},
		"a key above":            {free(), []int{60, 128}, api.ErrRange},
		"the least key of all":   {free(), []int{math.MinInt}, api.ErrRange},
		"the most key of all":    {free(), []int{math.MaxInt}, api.ErrRange},
		"low below":              {low, []int{60}, api.ErrRange},
		"low above high":         {with(func(r *api.Rules) { r.Low, r.High = 61, 60 }), []int{60}, api.ErrRange},
		"high below":             {with(func(r *api.Rules) { r.High = -1 }), []int{60}, api.ErrRange},
		"high above":             {with(func(r *api.Rules) { r.High = 128 }), []int{60}, api.ErrRange},
		"both above":             {with(func(r *api.Rules) { r.Low, r.High = 128, 128 }), []int{60}, api.ErrRange},
		"high far above":         {with(func(r *api.Rules) { r.High = math.MaxInt }), []int{60}, api.ErrRange},
		"low far below":          {with(func(r *api.Rules) { r.Low = math.MinInt }), []int{60}, api.ErrRange},
		"leap below":             {with(func(r *api.Rules) { r.Leap = -1 }), []int{60}, api.ErrRange},
		"leap far below":         {with(func(r *api.Rules) { r.Leap = math.MinInt }), []int{60}, api.ErrRange},
		"classes below":          {with(func(r *api.Rules) { r.Classes = -1 }), []int{60}, api.ErrRange},
		"classes above":          {with(func(r *api.Rules) { r.Classes = 4096 }), []int{60}, api.ErrRange},
		"classes far above":      {with(func(r *api.Rules) { r.Classes = math.MaxInt }), []int{60}, api.ErrRange},
	} {
		if err := rules.Wrong(x.r, x.given); err != x.want {
			t.Errorf("%s: %d, not %d", name, err, x.want)
		}
		for _, line := range [][]int{nil, {60}, {128}, x.given, same(60, 70)} {
			if what, at, err := rules.Check(x.r, x.given, line); what != 0 || at != 0 || err != x.want {
				t.Errorf("%s: Check of %v: %d %d %d, not %d", name, line, what, at, err, x.want)
			}
		}
		if n, err := rules.Count(x.r, x.given); n != 0 || err != x.want {
			t.Errorf("%s: Count: %d %d, not %d", name, n, err, x.want)
		}
		if l, err := rules.Find(x.r, x.given); len(l) != 0 || err != x.want {
			t.Errorf("%s: Find: %v %d, not %d", name, l, err, x.want)
		}
	}
}

func TestL2Examples(t *testing.T) {
	above := with(func(r *api.Rules) { r.Above = true })
	near := with(func(r *api.Rules) { r.Low, r.High = 60, 72 })
	white := with(func(r *api.Rules) { r.Classes = 0xab5 })
	leap := func(n int) api.Rules { return with(func(r *api.Rules) { r.Leap = n }) }
	for name, x := range map[string]struct {
		r           api.Rules
		given, line []int
		what, at    int
	}{
		"nothing":                    {free(), []int{60, 62, 60}, []int{60, 65, 72}, 0, 0},
		"low and high themselves":    {near, []int{60, 63, 60}, []int{60, 67, 72}, 0, 0},
		"below low":                  {near, []int{60}, []int{48}, api.BreakRange, 0},
		"above high":                 {near, []int{60}, []int{84}, api.BreakRange, 0},
		"a black key":                {white, []int{60, 58, 60}, []int{60, 61, 60}, api.BreakRange, 1},
		"the last class":             {white, []int{60, 68, 60}, []int{60, 71, 60}, 0, 0},
		"a key below, of high given": {above, []int{60, 64, 60}, []int{60, 60, 72}, api.BreakCross, 1},
		"the given key itself":       {above, []int{60}, []int{60}, 0, 0},
		"below, and it may be":       {free(), []int{60, 64, 60}, []int{60, 60, 48}, 0, 0},
		"a fifth at the beginning":   {free(), []int{60, 60}, []int{67, 72}, 0, 0},
		"a fifth below":              {free(), []int{60, 60}, []int{53, 48}, 0, 0},
		"a fourth below":             {free(), []int{60, 60}, []int{55, 60}, api.BreakSound, 0},
		"a third at the beginning":   {free(), []int{60, 60}, []int{64, 60}, api.BreakEnds, 0},
		"a fifth at the end":         {free(), []int{60, 60}, []int{60, 67}, api.BreakEnds, 1},
		"a third at the end":         {free(), []int{60, 60}, []int{60, 64}, api.BreakEnds, 1},
		"a third in the middle":      {free(), []int{60, 60, 60}, []int{60, 64, 60}, 0, 0},
		"one place is the last too":  {free(), []int{60}, []int{67}, api.BreakEnds, 0},
		"one place":                  {free(), []int{60}, []int{72}, 0, 0},
		"just the leap":              {leap(4), []int{60, 60, 60}, []int{60, 64, 60}, 0, 0},
		"beyond the leap, up":        {leap(3), []int{60, 60, 60}, []int{60, 64, 60}, api.BreakLeap, 1},
		"beyond the leap, down":      {leap(3), []int{60, 64, 60}, []int{60, 56, 60}, api.BreakLeap, 1},
		"no leap":                    {leap(0), []int{60, 60}, []int{60, 60}, 0, 0},
		"six up":                     {free(), []int{60, 63, 60}, []int{60, 66, 60}, api.BreakLeap, 1},
		"six down":                   {free(), []int{60, 57, 60}, []int{60, 54, 60}, api.BreakLeap, 1},
		"eighteen":                   {free(), []int{60, 75, 60}, []int{60, 78, 60}, 0, 0},
		"octaves":                    {free(), []int{60, 62}, []int{72, 74}, api.BreakParallel, 1},
		"octaves, one below":         {free(), []int{60, 62}, []int{72, 50}, api.BreakParallel, 1},
		"octaves, the given stays":   {free(), []int{60, 60}, []int{60, 72}, api.BreakParallel, 1},
		"octaves, the line stays":    {free(), []int{60, 72}, []int{60, 60}, 0, 0},
		"fifths":                     {free(), []int{60, 62, 62}, []int{67, 69, 62}, api.BreakParallel, 1},
		"fifths, one below":          {free(), []int{60, 62, 62}, []int{67, 55, 62}, api.BreakParallel, 1},
		"a fifth, then an octave":    {free(), []int{60, 62}, []int{67, 62}, 0, 0},
		"an octave, then a fifth":    {free(), []int{60, 60, 60}, []int{60, 67, 60}, 0, 0},
		"thirds":                     {free(), []int{60, 60, 62, 62}, []int{60, 64, 66, 62}, 0, 0},
		"octaves, not side by side":  {free(), []int{60, 60, 62}, []int{60, 64, 62}, 0, 0},
		"twice":                      {free(), []int{60, 60}, []int{60, 60}, 0, 0},
		"three times":                {free(), []int{60, 60, 60}, []int{60, 60, 60}, api.BreakRepeat, 2},
		"three times, the end":       {free(), []int{60, 60, 57, 60, 60}, []int{67, 60, 60, 60, 60}, api.BreakRepeat, 3},
		"twice, and twice":           {free(), []int{60, 60, 60, 60, 60}, []int{67, 67, 64, 64, 60}, 0, 0},
		"there and back":             {free(), []int{60, 60, 60, 60, 60}, []int{60, 64, 60, 64, 60}, 0, 0},
	} {
		what, at, err := rules.Check(x.r, x.given, x.line)
		if what != x.what || at != x.at || err != api.OK {
			t.Errorf("%s: %d %d %d, not %d at %d", name, what, at, err, x.what, x.at)
		}
	}
}

// TestL2Order: where several rules are broken the first one is told, and the first place ahead of what is first.
func TestL2Order(t *testing.T) {
	r := api.Rules{Low: 50, High: 80, Above: true, Leap: 5, Classes: 4095}
	given := []int{60, 60, 60, 60}
	for name, x := range map[string]struct {
		line     []int
		what, at int
	}{
		"range, cross, sound, ends":   {[]int{49, 60, 60, 60}, api.BreakRange, 0},
		"cross, sound, ends":          {[]int{59, 60, 60, 60}, api.BreakCross, 0},
		"sound, ends":                 {[]int{61, 60, 60, 60}, api.BreakSound, 0},
		"ends, and a leap behind":     {[]int{63, 80, 60, 60}, api.BreakEnds, 0},
		"range, leap":                 {[]int{60, 84, 60, 60}, api.BreakRange, 1},
		"cross, leap":                 {[]int{60, 53, 60, 60}, api.BreakCross, 1},
		"sound, leap":                 {[]int{60, 66, 60, 60}, api.BreakSound, 1},
		"leap, parallel":              {[]int{60, 72, 60, 60}, api.BreakLeap, 1},
		"ends, leap":                  {[]int{60, 64, 60, 67}, api.BreakEnds, 3},
		"ends, repeat":                {[]int{60, 64, 64, 64}, api.BreakEnds, 3},
		"repeat, and range behind it": {[]int{60, 60, 60, 49}, api.BreakRepeat, 2},
	} {
		if what, at, err := rules.Check(r, given, x.line); what != x.what || at != x.at || err != api.OK {
			t.Errorf("%s: %d %d %d, not %d at %d", name, what, at, err, x.what, x.at)
		}
	}
}

// TestL2AllPairs holds Check against the rules as they are said, of all lines of two keys against some.
func TestL2AllPairs(t *testing.T) {
	for _, r := range []api.Rules{free(), {Low: 40, High: 90, Above: true, Leap: 12, Classes: 0xab5}} {
		for _, given := range [][]int{{60, 60}, {60, 67}, {0, 127}, {127, 3}} {
			for a := range api.MaxKey + 1 {
				for b := range api.MaxKey + 1 {
					line := []int{a, b}
					what, at := firstBroken(r, given, line)
					if w, i, err := rules.Check(r, given, line); w != what || i != at || err != api.OK {
						t.Fatalf("%v %v %v: %d %d %d, not %d at %d", r, given, line, w, i, err, what, at)
					}
				}
			}
		}
	}
}

// TestL3Any holds Check against the rules as they are said, of lines that are found, with one place or none changed, and of made-up ones.
func TestL3Any(t *testing.T) {
	by := rand.New(rand.NewSource(1))
	var seen [8]int
	for range 4000 {
		r := anyRules(by, 24)
		given := anyGiven(by, r, 1+by.Intn(api.MaxLine))
		line, err := rules.Find(r, given)
		if err != api.OK {
			line = anyGiven(by, r, len(given))
		}
		if i := by.Intn(len(line) + 1); i < len(line) {
			line[i] = max(0, min(api.MaxKey, line[max(0, i-by.Intn(2))]-by.Intn(13)+6))
		}
		what, at := firstBroken(r, given, line)
		if w, i, err := rules.Check(r, given, line); w != what || i != at || err != api.OK {
			t.Fatalf("%v %v %v: %d %d %d, not %d at %d", r, given, line, w, i, err, what, at)
		}
		seen[what]++
	}
	for what, n := range seen {
		if n == 0 {
			t.Errorf("nothing was made up that breaks %d", what)
		}
	}
}

func TestL3Wrong(t *testing.T) {
	for name, x := range map[string]struct {
		line []int
		want api.Errno
	}{
		"nil":                      {nil, api.ErrFit},
		"empty":                    {[]int{}, api.ErrFit},
		"too short":                {[]int{60, 64}, api.ErrFit},
		"too long":                 {[]int{60, 64, 60, 60}, api.ErrFit},
		"too short, out of range":  {[]int{-1}, api.ErrFit},
		"below":                    {[]int{60, 64, -1}, api.ErrRange},
		"above":                    {[]int{128, 64, 60}, api.ErrRange},
		"the least":                {[]int{60, math.MinInt, 60}, api.ErrRange},
		"the greatest":             {[]int{60, math.MaxInt, 60}, api.ErrRange},
		"ahead of what is broken":  {[]int{61, 61, 128}, api.ErrRange},
		"and a line that is right": {[]int{60, 64, 60}, api.OK},
	} {
		if what, at, err := rules.Check(free(), []int{60, 60, 60}, x.line); what != 0 || at != 0 || err != x.want {
			t.Errorf("%s: %d %d %d, not %d", name, what, at, err, x.want)
		}
	}
}

func TestL4Examples(t *testing.T) {
	onlyC := with(func(r *api.Rules) { r.Classes = 1 })
	for name, x := range map[string]struct {
		r     api.Rules
		given []int
		count int
		find  []int
	}{
		"one given key, of class C":     {onlyC, []int{60}, 11, []int{0}},
		"above":                         {with(func(r *api.Rules) { r.Classes, r.Above = 1, true }), []int{60}, 6, []int{60}},
		"all classes, one place":        {free(), []int{61}, 11, []int{1}},
		"one key, twice":                {with(func(r *api.Rules) { r.Low, r.High = 60, 60 }), []int{60, 60}, 1, []int{60, 60}},
		"one key, three times":          {with(func(r *api.Rules) { r.Low, r.High = 60, 60 }), same(60, 3), 0, nil},
		"no classes":                    {with(func(r *api.Rules) { r.Classes = 0 }), []int{60}, 0, nil},
		"out of reach":                  {with(func(r *api.Rules) { r.Low, r.High = 61, 71 }), []int{60}, 0, nil},
		"all noughts":                   {api.Rules{Classes: 1}, []int{0}, 1, []int{0}},
		"no leap":                       {with(func(r *api.Rules) { r.Leap = 0 }), []int{60, 60}, 11, []int{0, 0}},
		"no leap, too long":             {with(func(r *api.Rules) { r.Leap = 0 }), same(60, 3), 0, nil},
		"the least first key is a trap": {with(func(r *api.Rules) { r.Low, r.High, r.Leap = 53, 60, 2 }), []int{60, 60}, 1, []int{60, 60}},
	} {
		if n, err := rules.Count(x.r, x.given); n != x.count || err != api.OK {
			t.Errorf("%s: Count: %d %d, not %d", name, n, err, x.count)
		}
		want := api.OK
		if x.find == nil {
			want = api.ErrNone
		}
		if l, err := rules.Find(x.r, x.given); !slices.Equal(l, x.find) || err != want {
			t.Errorf("%s: Find: %v %d, not %v", name, l, err, x.find)
		}
	}
}

// TestL4AllLines holds Count and Find against all lines, one by one.
func TestL4AllLines(t *testing.T) {
	by := rand.New(rand.NewSource(2))
	found := 0
	for range 400 {
		r := anyRules(by, 14)
		given := anyGiven(by, r, 1+by.Intn(5))
		count, first := 0, []int(nil)
		allLines(r, given, nil, func(line []int) {
			if count == 0 {
				first = slices.Clone(line)
			}
			count++
		})
		if n, err := rules.Count(r, given); n != count || err != api.OK {
			t.Fatalf("%v %v: Count: %d %d, not %d", r, given, n, err, count)
		}
		want := api.OK
		if count == 0 {
			want = api.ErrNone
		} else {
			found++
		}
		if l, err := rules.Find(r, given); !slices.Equal(l, first) || err != want {
			t.Fatalf("%v %v: Find: %v %d, not %v", r, given, l, err, first)
		}
	}
	if found < 40 || found > 360 {
		t.Errorf("lines exist in %d of 400", found)
	}
}

// TestL4Counted holds Count against sums without a bound, below MaxCount and beyond.
func TestL4Counted(t *testing.T) {
	by := rand.New(rand.NewSource(3))
	near, beyond := 0, 0
	for range 150 {
		r := anyRules(by, 20)
		given := anyGiven(by, r, 6+by.Intn(18))
		want := endings(r, given, nil)
		if n, err := rules.Count(r, given); n != capped(want) || err != api.OK {
			t.Fatalf("%v %v: %d %d, not %v", r, given, n, err, want)
		}
		if n := capped(want); n == api.MaxCount {
			beyond++
		} else if n > 1000 {
			near++
		}
	}
	if near < 10 || beyond < 10 {
		t.Errorf("%d counts are great, %d beyond the bound", near, beyond)
	}
}

// TestL4First: what Find tells breaks nothing, and nothing goes on from its beginnings with a lesser key behind them.
func TestL4First(t *testing.T) {
	by := rand.New(rand.NewSource(4))
	found := 0
	for range 200 {
		r := anyRules(by, 20)
		given := anyGiven(by, r, 5+by.Intn(12))
		line, err := rules.Find(r, given)
		if n, _ := rules.Count(r, given); (n == 0) != (err == api.ErrNone) || (n > 0) != (err == api.OK) {
			t.Fatalf("%v %v: %d lines, and Find tells %d", r, given, n, err)
		}
		if err != api.OK {
			continue
		}
		found++
		if what, at := firstBroken(r, given, line); what != 0 || len(line) != len(given) {
			t.Fatalf("%v %v: %v breaks %d at %d", r, given, line, what, at)
		}
		for i, key := range line {
			for less := r.Low; less < key; less++ {
				begin := append(slices.Clone(line[:i]), less)
				if n := endings(r, given, begin); n.Sign() != 0 {
					t.Fatalf("%v %v: %v, but %v goes on in %v ways", r, given, line, begin, n)
				}
			}
		}
	}
	if found < 40 || found > 160 {
		t.Errorf("lines exist in %d of 200", found)
	}
}

// TestL4Longest: of as many keys as there may be, with all keys free, and with few.
func TestL4Longest(t *testing.T) {
	given := theme(api.MaxLine)
	if n, err := rules.Count(free(), given); n != api.MaxCount || err != api.OK {
		t.Errorf("free: %d %d", n, err)
	}
	line, err := rules.Find(free(), given)
	if what, at := firstBroken(free(), given, line); what != 0 || len(line) != api.MaxLine || err != api.OK {
		t.Errorf("free: %v %d breaks %d at %d", line, err, what, at)
	}
	for name, x := range map[string]struct {
		high, leap int
		turn       []int
		n, want    int
	}{
		"one way":          {63, 3, []int{60, 60, 62, 62}, api.MaxLine, 1},
		"some ways":        {67, 1, []int{60, 60, 62, 62}, api.MaxLine, 832040},
		"others":           {63, 2, []int{60, 60, 64}, api.MaxLine, 1 << 20},
		"below the bound":  {64, 3, []int{60, 60, 62, 62}, api.MaxLine - 2, 1 << 28},
		"beyond the bound": {64, 3, []int{60, 60, 62, 62}, api.MaxLine, api.MaxCount},
		"far beyond it":    {67, 2, []int{60, 60, 62, 62}, api.MaxLine, api.MaxCount},
	} {
		r := api.Rules{Low: 60, High: x.high, Leap: x.leap, Classes: 4095}
		given := slices.Repeat(x.turn, x.n)[:x.n]
		if n, err := rules.Count(r, given); n != x.want || err != api.OK {
			t.Errorf("%s: %d %d, not %d", name, n, err, x.want)
		}
		if n := capped(endings(r, given, nil)); n != x.want {
			t.Errorf("%s: %d by the sums without a bound, not %d", name, n, x.want)
		}
	}
}

// TestL4Doomed: that the ways on from a place are beyond all bounds helps nothing, if none leads there, or none on.
func TestL4Doomed(t *testing.T) {
	r := with(func(r *api.Rules) { r.Classes = 4095 &^ 0xa1 }) // no C, and no fifth above it or below
	first := append([]int{60}, same(62, 40)...)
	last := append(same(62, 40), 60)
	for name, given := range map[string][]int{"no beginning": first, "no end": last} {
		if n, err := rules.Count(r, given); n != 0 || err != api.OK {
			t.Errorf("%s: %d %d", name, n, err)
		}
		if l, err := rules.Find(r, given); len(l) != 0 || err != api.ErrNone {
			t.Errorf("%s: %v %d", name, l, err)
		}
	}
	if n, err := rules.Count(r, same(62, 40)); n != api.MaxCount || err != api.OK {
		t.Errorf("without them: %d %d", n, err)
	}
}

// TestE1Again: the same is answered whenever it is asked for.
func TestE1Again(t *testing.T) {
	r := api.Rules{Low: 60, High: 79, Above: true, Leap: 7, Classes: 0xab5}
	given := []int{62, 65, 64, 62, 67, 65, 69, 67, 65, 64, 62}
	count, _ := rules.Count(r, given)
	line, _ := rules.Find(r, given)
	for range 50 {
		if n, err := rules.Count(r, given); n != count || err != api.OK {
			t.Fatalf("%d %d, not %d", n, err, count)
		}
		if l, err := rules.Find(r, given); !slices.Equal(l, line) || err != api.OK {
			t.Fatalf("%v %d, not %v", l, err, line)
		}
	}
}

// TestE2OnlyRead: neither the voices nor the room behind them are changed, and what is found is new memory.
func TestE2OnlyRead(t *testing.T) {
	room := append(theme(8), -7, -8, -9)
	was := slices.Clone(room)
	given := room[:8]
	rules.Wrong(free(), given)
	rules.Count(free(), given)
	line, _ := rules.Find(free(), given)
	first := slices.Clone(line)
	rules.Check(free(), given, line)
	rules.Check(free(), line, given)
	if !slices.Equal(room, was) || !slices.Equal(line, first) {
		t.Errorf("%v became %v, %v became %v", was, room, first, line)
	}
	for i := range line[:cap(line)] {
		line[:cap(line)][i] = -1
	}
	if again, err := rules.Find(free(), given); !slices.Equal(room, was) || !slices.Equal(again, first) || err != api.OK {
		t.Errorf("%v became %v, %v became %v", was, room, first, again)
	}
}
