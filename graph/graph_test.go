package graph_test

import (
	"math"
	"math/rand"
	"slices"
	"testing"

	"cantus/api"
	"cantus/filter"
	"cantus/graph"
	"cantus/voice"
)

func TestK1Examples(t *testing.T) {
	nought := math.Copysign(0, -1)
	one := []float64{1, 2, -3, 4}
	two := []float64{nought, 0.5, 10, -7}
	for _, x := range []struct {
		name  string
		nodes []api.Node
		want  []float64 // of node 0
	}{
		{"the first that comes in", []api.Node{input(0)}, one},
		{"the second that comes in", []api.Node{input(1)}, two},
		{"steady", []api.Node{steady(0.3)}, []float64{0.3, 0.3, 0.3, 0.3}},
		{"steady -0", []api.Node{steady(nought)}, []float64{nought, nought, nought, nought}},
		{"a gain", []api.Node{gain(-2, 1), input(0)}, []float64{-2, -4, 6, -8}},
		{"a gain of -0", []api.Node{gain(-2, 1), input(1)}, []float64{0, -1, -20, 14}},
		{"a mix of none", []api.Node{mix()}, []float64{0, 0, 0, 0}},
		{"a mix of one", []api.Node{mix(1), input(1)}, two},
		{"a mix of two", []api.Node{mix(1, 2), input(0), input(1)}, []float64{1, 2.5, 7, -3}},
		{"a mix of one three times", []api.Node{mix(1, 1, 1), input(0)}, []float64{3, 6, -9, 12}},
		{"a mix of noughts", []api.Node{mix(1, 1), steady(nought)}, []float64{nought, nought, nought, nought}},
		{"a product", []api.Node{times(1, 2), input(0), input(1)}, []float64{nought, 1, -30, -28}},
		{"a square", []api.Node{times(1, 1), input(0)}, []float64{1, 4, 9, 16}},
		{"one later", []api.Node{delay(1, 1), input(0)}, []float64{0, 1, 2, -3}},
		{"three later", []api.Node{delay(3, 1), input(1)}, []float64{0, 0, 0, nought}},
		{"four later", []api.Node{delay(4, 1), input(1)}, []float64{0, 0, 0, 0}},
		{"latest", []api.Node{delay(api.MaxDelay, 1), steady(1)}, []float64{0, 0, 0, 0}},
		{"a delay of a delay", []api.Node{delay(1, 1), delay(2, 2), input(0)}, []float64{0, 0, 0, 1}},
		{"a delay of itself", []api.Node{delay(2, 0)}, []float64{0, 0, 0, 0}},
		{"a filter", []api.Node{strained(api.Coefs{B0: 1, A1: -1}, 1), input(0)}, []float64{1, 3, 0, 4}},
		{"a voice", []api.Node{sings(api.Patch{Shape: api.ShapeSaw, Step: 1 << 29, Gain: 4, Attack: 2, Decay: 2, Sustain: api.One / 2})}, []float64{0, 0.5, 2, 2.25}},
		{"an echo", []api.Node{mix(1, 2), input(0), gain(0.5, 3), delay(2, 0)}, []float64{1, 2, -2.5, 5}},
		{"all that came", []api.Node{mix(1, 2), delay(1, 0), input(0)}, []float64{1, 3, 0, 4}},
		{"a doubling", []api.Node{mix(1, 1, 2), delay(1, 0), steady(1)}, []float64{1, 3, 7, 15}},
		{"two that hear each other late", []api.Node{mix(1, 2), delay(1, 3), input(0), gain(-1, 4), delay(1, 0)}, []float64{1, 2, -4, 2}},
	} {
		g := api.Graph{Ins: 2, Nodes: x.nodes, Outs: []int{0}}
		sameLists(t, x.name, run(t, begin(t, g), [][]float64{one, two}, 4), [][]float64{x.want})
		sameLists(t, x.name+", by the model", isRun(g, [][]float64{one, two}, 4), [][]float64{x.want})
	}
}

// TestK1Order: what is added sooner, and what later, is seen where numbers are far apart.
func TestK1Order(t *testing.T) {
	nodes := []api.Node{steady(0x1p60), steady(-0x1p60), steady(1), mix(0, 1, 2), mix(2, 0, 1), mix(0, 2, 1), mix(2, 1, 2, 0, 2)}
	got := run(t, begin(t, api.Graph{Nodes: nodes, Outs: []int{3, 4, 5, 6}}), nil, 1)
	sameLists(t, "by hand", got, [][]float64{{1}, {0}, {0}, {1}})
}

// TestK1Rounded: no product is put together with the sum that it is added to.
func TestK1Rounded(t *testing.T) {
	r := rand.New(rand.NewSource(11))
	for range 300 {
		x, y, z := r.NormFloat64(), r.NormFloat64(), r.NormFloat64()
		nodes := []api.Node{steady(y), steady(-product(x, y)), gain(x, 0), mix(2, 1), steady(x), times(0, 4), mix(1, 5), steady(z), mix(5, 7)}
		got := run(t, begin(t, api.Graph{Nodes: nodes, Outs: []int{3, 6, 8}}), nil, 1)
		sameLists(t, "a sum of products", got, [][]float64{{0}, {0}, {sum(product(x, y), z)}})
	}
}

func TestK1Delays(t *testing.T) {
	r := rand.New(rand.NewSource(12))
	const long = 9000
	ins := someIns(r, 1, long)
	for _, n := range []int{1, 2, 511, 512, 513, 1024, 4095, 4096} {
		g := api.Graph{Ins: 1, Nodes: []api.Node{delay(n, 1), input(0), mix(1, 3), delay(n, 2)}, Outs: []int{0, 2}}
		want := isRun(g, ins, long)
		sameLists(t, "at once", run(t, begin(t, g), ins, long), want)
		for _, pieces := range [][]int{{n}, {n, 1}, {max(1, n-1), n + 1}, {1, 5000}, {513, 7}} {
			sameLists(t, "in pieces", inPieces(t, begin(t, g), 2, ins, long, pieces...), want)
		}
	}
}

// TestK1Others: a filter and a voice are those of their chapters, at whatever sample they are asked.
func TestK1Others(t *testing.T) {
	r := rand.New(rand.NewSource(13))
	const long = 2000
	ins := someIns(r, 1, long)
	for shape := api.ShapeSine; shape <= api.ShapeTriangle; shape++ {
		p := somePatch()
		p.Shape = shape
		g := api.Graph{Ins: 1, Nodes: []api.Node{strained(someCoefs(), 1), input(0), sings(p), delay(1+r.Intn(99), 2)}, Outs: []int{0, 2}}
		f, _ := filter.New(someCoefs())
		v, _ := voice.New(p)
		sung, _ := v.Render(long)
		want := [][]float64{f.Run(ins[0]), sung}
		sameLists(t, "at once", run(t, begin(t, g), ins, long), want)
		sameLists(t, "in pieces", inPieces(t, begin(t, g), 2, ins, long, 1, 0, 600, 3), want)
	}
}

// TestK1Drawn holds graphs of all kinds against the model, however they are cut into pieces.
func TestK1Drawn(t *testing.T) {
	r := rand.New(rand.NewSource(14))
	for i := range 400 {
		most := []int{1, 3, 20, 60}[i%4]
		g := drawnGraph(r, func() int { return 1 + r.Intn(most) })
		n := 1 + r.Intn(100)
		ins := someIns(r, g.Ins, n)
		want := isRun(g, ins, n)
		sameLists(t, "at once", run(t, begin(t, g), ins, n), want)
		sameLists(t, "one by one", inPieces(t, begin(t, g), len(g.Outs), ins, n, 1), want)
		sameLists(t, "in pieces", inPieces(t, begin(t, g), len(g.Outs), ins, n, 1+r.Intn(30), r.Intn(30), r.Intn(9)), want)
	}
}

func TestK1DrawnLong(t *testing.T) {
	r := rand.New(rand.NewSource(15))
	lates := []int{100, 511, 512, 513, 700, 1023, 4096}
	for range 6 {
		g := drawnGraph(r, func() int { return lates[r.Intn(len(lates))] })
		const n = 5000
		ins := someIns(r, g.Ins, n)
		want := isRun(g, ins, n)
		sameLists(t, "at once", run(t, begin(t, g), ins, n), want)
		sameLists(t, "in pieces", inPieces(t, begin(t, g), len(g.Outs), ins, n, 1+r.Intn(1500), r.Intn(1500)), want)
	}
}

// TestK1Odd: whatever floats can be comes in, and is multiplied by.
func TestK1Odd(t *testing.T) {
	r := rand.New(rand.NewSource(16))
	odd := oddNumbers()
	for range 400 {
		g := drawnGraph(r, func() int { return 1 + r.Intn(4) })
		for k := range g.Nodes {
			g.Nodes[k].X = odd[r.Intn(len(odd))]
		}
		ins := someIns(r, g.Ins, 12)
		for _, l := range ins {
			for i := range l {
				l[i] = odd[r.Intn(len(odd))]
			}
		}
		want := isRun(g, ins, 12)
		x := begin(t, g)
		sameLists(t, "odd", run(t, x, ins, 12), want)
		x.Rest()
		sameLists(t, "odd, from rest", run(t, x, ins, 12), want)
	}
}

// littered has fields that mean nothing to its nodes filled with what would be wrong.
func littered(r *rand.Rand, g api.Graph) api.Graph {
	g.Nodes = slices.Clone(g.Nodes)
	for k := range g.Nodes {
		x := &g.Nodes[k]
		if x.Kind != api.NodeInput && x.Kind != api.NodeDelay {
			x.N = []int{-1, math.MinInt, math.MaxInt, 0}[r.Intn(4)]
		}
		if x.Kind != api.NodeConst && x.Kind != api.NodeGain {
			x.X = math.NaN()
		}
		if x.Kind != api.NodeFilter {
			x.Coefs = api.Coefs{B0: math.NaN(), A2: math.Inf(1)}
		}
		if x.Kind != api.NodeVoice {
			x.Patch = api.Patch{Shape: 99, Gain: math.NaN(), Attack: -1}
		}
	}
	return g
}

func TestK1OtherFields(t *testing.T) {
	r := rand.New(rand.NewSource(17))
	for range 100 {
		g := drawnGraph(r, func() int { return 1 + r.Intn(5) })
		ins := someIns(r, g.Ins, 20)
		sameLists(t, "littered", run(t, begin(t, littered(r, g)), ins, 20), isRun(g, ins, 20))
	}
}

func TestK3Wrong(t *testing.T) {
	wide := func(ins, n int) [][]float64 {
		out := make([][]float64, ins)
		for i := range out {
			out[i] = make([]float64, n)
		}
		return out
	}
	uneven := wide(2, 4)
	uneven[1] = uneven[1][:3]
	longer := wide(2, 4)
	longer[0] = make([]float64, 5)
	for _, x := range []struct {
		ins  [][]float64
		n    int
		want api.Errno
	}{
		{wide(2, 0), -1, api.ErrRange},
		{wide(2, api.MaxBlock+1), api.MaxBlock + 1, api.ErrRange},
		{nil, -1, api.ErrRange},
		{wide(3, 4), math.MinInt, api.ErrRange},
		{wide(1, 4), math.MaxInt, api.ErrRange},
		{wide(0, 4), 4, api.ErrFit},
		{wide(1, 4), 4, api.ErrFit},
		{wide(3, 4), 4, api.ErrFit},
		{wide(2, 3), 4, api.ErrFit},
		{wide(2, 5), 4, api.ErrFit},
		{uneven, 4, api.ErrFit},
		{longer, 4, api.ErrFit},
		{wide(2, 4), 0, api.ErrFit},
		{nil, 0, api.ErrFit},
		{wide(1, 0), 0, api.ErrFit},
		{wide(3, 0), 0, api.ErrFit},
		{wide(2, 1), 0, api.ErrFit},
		{wide(2, 0), 1, api.ErrFit},
	} {
		g := begin(t, api.Graph{Ins: 2, Nodes: []api.Node{input(0)}, Outs: []int{0}})
		if out, err := g.Run(x.ins, x.n); len(out) != 0 || err != x.want {
			t.Errorf("%d lists, %d samples: %d lists, %d, not %d", len(x.ins), x.n, len(out), err, x.want)
		}
	}
	deaf := begin(t, api.Graph{Nodes: []api.Node{steady(1)}, Outs: []int{0}})
	if out, err := deaf.Run(wide(1, 4), 4); len(out) != 0 || err != api.ErrFit {
		t.Errorf("where nothing comes in: %v %d", out, err)
	}
}

// TestK3WrongChangesNothing has calls that are refused between those that are not.
func TestK3WrongChangesNothing(t *testing.T) {
	r := rand.New(rand.NewSource(31))
	for range 50 {
		g := drawnGraph(r, func() int { return 1 + r.Intn(9) })
		ins := someIns(r, g.Ins, 30)
		want := isRun(g, ins, 30)
		x := begin(t, g)
		for at := range 30 {
			x.Run(ins, 29)
			x.Run(piece(ins, at, at+1), -1)
			x.Run(append(piece(ins, at, at+1), []float64{5}), 1)
			x.Run(ins[1:], 30)
			sameLists(t, "between them", run(t, x, piece(ins, at, at+1), 1), piece(want, at, at+1))
		}
	}
}

func TestK3Edges(t *testing.T) {
	g := api.Graph{Ins: 1, Nodes: []api.Node{delay(3, 1), input(0)}, Outs: []int{0, 1}}
	x := begin(t, g)
	for _, none := range [][][]float64{{nil}, {{}}, {make([]float64, 0, 4)}} {
		if l := run(t, x, none, 0); len(l) != 2 {
			t.Errorf("no samples: %d lists", len(l))
		}
	}
	r := rand.New(rand.NewSource(32))
	ins := someIns(r, 1, api.MaxBlock)
	want := append([]float64{0, 0, 0}, ins[0][:api.MaxBlock-3]...)
	sameLists(t, "as many as there can be", run(t, x, ins, api.MaxBlock), [][]float64{want, ins[0]})
	sameLists(t, "and on", run(t, x, [][]float64{{7}}, 1), [][]float64{{ins[0][api.MaxBlock-3]}, {7}})
	if l := run(t, begin(t, api.Graph{}), nil, 5); len(l) != 0 {
		t.Errorf("nothing tells %v", l)
	}
	if l := run(t, begin(t, api.Graph{Ins: 1, Nodes: g.Nodes}), [][]float64{{1}}, 1); len(l) != 0 {
		t.Errorf("nothing is heard, but %v", l)
	}
	sameLists(t, "nothing comes in", run(t, begin(t, api.Graph{Nodes: []api.Node{steady(2)}, Outs: []int{0}}), [][]float64{}, 2), [][]float64{{2, 2}})
}

// TestK3Outs: nodes are heard as often as they are named, and in that order; what is not heard is made all the same.
func TestK3Outs(t *testing.T) {
	r := rand.New(rand.NewSource(33))
	for range 100 {
		g := drawnGraph(r, func() int { return 1 + r.Intn(5) })
		g.Outs = nil
		for range r.Intn(8) {
			g.Outs = append(g.Outs, r.Intn(len(g.Nodes)))
		}
		ins := someIns(r, g.Ins, 25)
		sameLists(t, "some", inPieces(t, begin(t, g), len(g.Outs), ins, 25, 4, 9), isRun(g, ins, 25))
	}
}

// TestK3Lists: what is handed in is only read, and not kept; what is answered is new, and no two lists of it share room. It is so whether a piece is longer than a delay or not.
func TestK3Lists(t *testing.T) {
	for _, late := range []int{1, 3, 5, 6, 40} {
		g := api.Graph{Ins: 2, Nodes: []api.Node{input(0), input(1), mix(0), delay(late, 0), delay(7, 1), strained(someCoefs(), 1), mix(0, 4), steady(3), sings(somePatch())}}
		g.Outs = []int{0, 0, 1, 2, 3, 4, 3, 5, 5, 6, 7, 7, 8, 8, 0}
		spoilLists(t, g, someIns(rand.New(rand.NewSource(34)), g.Ins, 60))
	}
}

// spoilLists writes over each list as soon as it has been looked at.
func spoilLists(t *testing.T, g api.Graph, ins [][]float64) {
	t.Helper()
	want := isRun(g, ins, 60)
	room := [][]float64{slices.Clone(ins[0]), slices.Clone(ins[1])}
	x := begin(t, g)
	for at := 0; at < 60; at += 5 {
		got := run(t, x, piece(room, at, at+5), 5)
		sameLists(t, "what is handed in, and stands behind it", piece(room, at, 60), piece(ins, at, 60))
		for k := range got {
			sameLists(t, "what is told", got[k:k+1], piece(want[k:k+1], at, at+5))
			spoil(got[k][:cap(got[k])])
		}
		sameLists(t, "what was handed in", piece(room, at, 60), piece(ins, at, 60))
		spoil(room[0][at : at+5])
		spoil(room[1][at : at+5])
	}
}

func spoil(l []float64) {
	for i := range l {
		l[i] = 77
	}
}

// TestK3Rest brings graphs to rest behind any number of samples.
func TestK3Rest(t *testing.T) {
	r := rand.New(rand.NewSource(35))
	for range 100 {
		g := drawnGraph(r, func() int { return 1 + r.Intn(9) })
		x := begin(t, g)
		for again := range 5 {
			n := r.Intn(40)
			ins := someIns(r, g.Ins, n)
			sameLists(t, "from sample 0", inPieces(t, x, len(g.Outs), ins, n, 3, 1, 8), isRun(g, ins, n))
			for range 1 + again%2 {
				x.Rest()
			}
		}
	}
}

// TestK3RestForgets: of each kind that remembers nothing is left, not even the sign of a nought.
func TestK3RestForgets(t *testing.T) {
	g := all(api.Graph{Ins: 1, Nodes: []api.Node{input(0), delay(2, 0), strained(api.Coefs{B0: 1, B1: 1, A2: -1}, 0), sings(somePatch()), delay(600, 2), mix(0, 6), delay(1, 5)}})
	x := begin(t, g)
	still := [][]float64{make([]float64, 700)}
	want := isRun(g, still, 700)
	for _, n := range []int{1, 2, 3, 599, 600, 601, 1300} {
		loud := make([]float64, n)
		for i := range loud {
			loud[i] = []float64{math.NaN(), math.Inf(-1), math.Copysign(0, -1), -5}[i%4]
		}
		run(t, x, [][]float64{loud}, n)
		x.Rest()
		sameLists(t, "nothing comes in", run(t, x, still, 700), want)
	}
}

// TestK3Alone: graphs do not know of one another, though one description was handed in for all.
func TestK3Alone(t *testing.T) {
	r := rand.New(rand.NewSource(36))
	for range 50 {
		g := drawnGraph(r, func() int { return 1 + r.Intn(9) })
		ins := [][][]float64{someIns(r, g.Ins, 30), someIns(r, g.Ins, 30)}
		var want [][][]float64
		for _, l := range ins {
			want = append(want, isRun(g, l, 30))
		}
		x := []*graph.Graph{begin(t, g), begin(t, g)}
		rested := begin(t, g)
		for at := range 30 {
			for i := range x {
				sameLists(t, "one of two", run(t, x[i], piece(ins[i], at, at+1), 1), piece(want[i], at, at+1))
			}
			rested.Rest()
			run(t, rested, piece(ins[0], at, at+1), 1)
		}
	}
}
