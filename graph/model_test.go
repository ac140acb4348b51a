package graph_test

import (
	"math"
	"math/big"
	"math/rand"
	"testing"

	"cantus/api"
	"cantus/graph"
	"cantus/voice"
)

// exact has room for each sum and product of two floats, so that what comes of it is rounded once, by whole numbers alone.
func exact() *big.Float { return new(big.Float).SetPrec(2200) }

func float(x float64) *big.Float { return exact().SetFloat64(x) }

func rounded(x *big.Float) float64 {
	out, _ := x.Float64()
	return out
}

func finite(l ...float64) bool {
	for _, x := range l {
		if math.IsNaN(x) || math.IsInf(x, 0) {
			return false
		}
	}
	return true
}

// Beyond the finite numbers nothing is rounded: there the machine's own sums and products do.

func sum(x, y float64) float64 {
	if !finite(x, y) {
		return x + y
	}
	return rounded(exact().Add(float(x), float(y)))
}

func difference(x, y float64) float64 {
	if !finite(x, y) {
		return x - y
	}
	return rounded(exact().Sub(float(x), float(y)))
}

func product(x, y float64) float64 {
	if !finite(x, y) {
		return x * y
	}
	return rounded(exact().Mul(float(x), float(y)))
}

// same: bit by bit, so that -0 is not 0; of what is no number it says nothing which one it is.
func same(x, y float64) bool {
	return math.Float64bits(x) == math.Float64bits(y) || math.IsNaN(x) && math.IsNaN(y)
}

func sameLists(t *testing.T, name string, got, want [][]float64) {
	t.Helper()
	if len(got) != len(want) {
		t.Fatalf("%s: %d lists, not %d", name, len(got), len(want))
	}
	for k := range got {
		if len(got[k]) != len(want[k]) {
			t.Fatalf("%s: list %d has %d numbers, not %d", name, k, len(got[k]), len(want[k]))
		}
		for i := range got[k] {
			if !same(got[k][i], want[k][i]) {
				t.Fatalf("%s: number %d of list %d is %x, not %x", name, i, k, got[k][i], want[k][i])
			}
		}
	}
}

// model is K1 word by word: what a node makes at a sample is asked for when it is needed, and kept.
type model struct {
	g     api.Graph
	ins   [][]float64
	sung  [][]float64
	made  [][]float64
	known [][]bool
}

func newModel(g api.Graph, ins [][]float64, n int) *model {
	m := &model{g: g, ins: ins}
	for _, x := range g.Nodes {
		var sung []float64
		if x.Kind == api.NodeVoice {
			v, _ := voice.New(x.Patch)
			sung, _ = v.Render(n)
		}
		m.sung = append(m.sung, sung)
		m.made = append(m.made, make([]float64, n))
		m.known = append(m.known, make([]bool, n))
	}
	return m
}

func (m *model) at(k, i int) float64 {
	if i < 0 {
		return 0
	}
	if !m.known[k][i] {
		m.made[k][i], m.known[k][i] = m.work(k, i), true
	}
	return m.made[k][i]
}

func (m *model) work(k, i int) float64 {
	x := m.g.Nodes[k]
	one := func(j, i int) float64 { return m.at(x.From[j], i) }
	switch x.Kind {
	case api.NodeInput:
		return m.ins[x.N][i]
	case api.NodeConst:
		return x.X
	case api.NodeGain:
		return product(x.X, one(0, i))
	case api.NodeMix:
		return m.mixed(x.From, i)
	case api.NodeTimes:
		return product(one(0, i), one(1, i))
	case api.NodeDelay:
		return one(0, i-x.N)
	case api.NodeFilter:
		c := x.Coefs
		y := sum(product(c.B0, one(0, i)), product(c.B1, one(0, i-1)))
		y = sum(y, product(c.B2, one(0, i-2)))
		y = difference(y, product(c.A1, m.at(k, i-1)))
		return difference(y, product(c.A2, m.at(k, i-2)))
	}
	return m.sung[k][i]
}

func (m *model) mixed(from []int, i int) float64 {
	if len(from) == 0 {
		return 0
	}
	out := m.at(from[0], i)
	for _, k := range from[1:] {
		out = sum(out, m.at(k, i))
	}
	return out
}

// isRun is what is heard in the first n samples.
func isRun(g api.Graph, ins [][]float64, n int) [][]float64 {
	m := newModel(g, ins, n)
	out := make([][]float64, len(g.Outs))
	for i := range n {
		for k := range g.Nodes {
			m.at(k, i)
		}
		for j, k := range g.Outs {
			out[j] = append(out[j], m.at(k, i))
		}
	}
	return out
}

func begin(t *testing.T, g api.Graph) *graph.Graph {
	t.Helper()
	x, err := graph.New(g)
	if err != api.OK || x == nil {
		t.Fatalf("%+v: %v %d", g, x, err)
	}
	return x
}

func run(t *testing.T, x *graph.Graph, ins [][]float64, n int) [][]float64 {
	t.Helper()
	out, err := x.Run(ins, n)
	if err != api.OK {
		t.Fatalf("%d samples: %d", n, err)
	}
	for k, l := range out {
		if len(l) != n {
			t.Fatalf("%d samples: list %d has %d", n, k, len(l))
		}
	}
	return out
}

// piece is some samples of what comes in.
func piece(ins [][]float64, from, to int) [][]float64 {
	var out [][]float64
	for _, l := range ins {
		out = append(out, l[from:to])
	}
	return out
}

// inPieces is what is heard in n samples, made in pieces of these lengths, over and over.
func inPieces(t *testing.T, x *graph.Graph, outs int, ins [][]float64, n int, pieces ...int) [][]float64 {
	t.Helper()
	out := make([][]float64, outs)
	for at, i := 0, 0; at < n; i++ {
		now := min(pieces[i%len(pieces)], n-at)
		l := run(t, x, piece(ins, at, at+now), now)
		if len(l) != outs {
			t.Fatalf("%d lists, not %d", len(l), outs)
		}
		for k := range l {
			out[k] = append(out[k], l[k]...)
		}
		at += now
	}
	return out
}

// all hears each node of a graph.
func all(g api.Graph) api.Graph {
	g.Outs = nil
	for k := range g.Nodes {
		g.Outs = append(g.Outs, k)
	}
	return g
}

func someNumbers(r *rand.Rand, n int) []float64 {
	out := make([]float64, n)
	for i := range out {
		out[i] = 2*r.Float64() - 1
	}
	return out
}

func someIns(r *rand.Rand, ins, n int) [][]float64 {
	var out [][]float64
	for range ins {
		out = append(out, someNumbers(r, n))
	}
	return out
}

// oddNumbers are those that sums and products treat in ways of their own.
func oddNumbers() []float64 {
	return []float64{0, math.Copysign(0, -1), 1, -1, math.Inf(1), math.Inf(-1), math.NaN(), math.MaxFloat64, -math.MaxFloat64, math.SmallestNonzeroFloat64, 0x1p-1022, 0x1p53 + 2}
}

// The nodes of which the graphs of these tests are made.

func input(n int) api.Node { return api.Node{Kind: api.NodeInput, N: n} }

func steady(x float64) api.Node { return api.Node{Kind: api.NodeConst, X: x} }

func gain(x float64, of int) api.Node {
	return api.Node{Kind: api.NodeGain, X: x, From: []int{of}}
}

func mix(from ...int) api.Node { return api.Node{Kind: api.NodeMix, From: from} }

func times(one, other int) api.Node {
	return api.Node{Kind: api.NodeTimes, From: []int{one, other}}
}

func delay(n, of int) api.Node {
	return api.Node{Kind: api.NodeDelay, N: n, From: []int{of}}
}

func strained(c api.Coefs, of int) api.Node {
	return api.Node{Kind: api.NodeFilter, Coefs: c, From: []int{of}}
}

func sings(p api.Patch) api.Node { return api.Node{Kind: api.NodeVoice, Patch: p} }

func someCoefs() api.Coefs { return api.Coefs{B0: 0.1, B1: 0.2, B2: -0.3, A1: -0.7, A2: 0.4} }

func somePatch() api.Patch {
	return api.Patch{Shape: api.ShapeTriangle, Step: 0x01234567, Gain: 0.75, Attack: 5, Decay: 700, Release: 3, Sustain: 0x5a5a5}
}

// drawnNode is one that listens to what is ready at the same sample, or, if it is a delay, to any of so many.
func drawnNode(r *rand.Rand, ins, many int, ready []int, kind, late int) api.Node {
	x := api.Node{Kind: kind, N: r.Intn(ins), X: 2.2*r.Float64() - 1.1, Coefs: someCoefs(), Patch: somePatch()}
	x.Coefs.B0, x.Patch.Step = r.Float64(), r.Uint32()
	hear := map[int]int{api.NodeGain: 1, api.NodeTimes: 2, api.NodeFilter: 1, api.NodeMix: r.Intn(5)}[kind]
	for range hear {
		x.From = append(x.From, ready[r.Intn(len(ready))])
	}
	if kind == api.NodeDelay {
		x.From, x.N = []int{r.Intn(many)}, late
	}
	return x
}

// drawnGraph has no loop but through delays, which are at least that late; its nodes stand in no order.
func drawnGraph(r *rand.Rand, late func() int) api.Graph {
	g := api.Graph{Ins: 1 + r.Intn(3), Nodes: make([]api.Node, 1+r.Intn(20))}
	places := r.Perm(len(g.Nodes))
	kinds := make([]int, len(places))
	var ready []int
	for k := range kinds {
		kinds[k] = 1 + r.Intn(8)
		if kinds[k] == api.NodeDelay {
			ready = append(ready, k)
		}
	}
	for _, k := range places {
		if len(ready) == 0 {
			kinds[k] = api.NodeInput
		}
		g.Nodes[k] = drawnNode(r, g.Ins, len(places), ready, kinds[k], late())
		if kinds[k] != api.NodeDelay {
			ready = append(ready, k)
		}
	}
	return all(g)
}
