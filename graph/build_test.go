package graph_test

import (
	"math"
	"math/rand"
	"slices"
	"testing"

	"cantus/api"
	"cantus/filter"
	"cantus/graph"
	"cantus/voice"
)

func refused(t *testing.T, name string, g api.Graph, want api.Errno) {
	t.Helper()
	if x, err := graph.New(g); x != nil || err != want {
		t.Errorf("%s: %v %d, not %d", name, x, err, want)
	}
}

// many nodes, all steady, with those ahead of them.
func many(n int, ahead ...api.Node) []api.Node {
	for len(ahead) < n {
		ahead = append(ahead, steady(1))
	}
	return ahead
}

func TestK2Right(t *testing.T) {
	begin(t, api.Graph{})
	begin(t, api.Graph{Nodes: []api.Node{}, Outs: []int{}})
	begin(t, api.Graph{Ins: api.MaxIns})
	begin(t, api.Graph{Nodes: []api.Node{{Kind: api.NodeMix, From: []int{}}, {Kind: api.NodeConst, From: []int{}}}})
	begin(t, api.Graph{Ins: 16, Nodes: []api.Node{input(0), input(15)}})
	begin(t, api.Graph{Ins: 1, Nodes: []api.Node{input(0)}})
	begin(t, api.Graph{Nodes: []api.Node{delay(1, 0), delay(4096, 1)}})
	begin(t, api.Graph{Nodes: many(256, gain(1, 255), mix(255, 2), times(255, 255)), Outs: make([]int, 256)})
	begin(t, api.Graph{Nodes: []api.Node{steady(math.NaN()), gain(math.Inf(1), 0)}})
	g := api.Graph{Nodes: []api.Node{mix(make([]int, 5000)...), steady(1)}, Outs: []int{0}}
	for i := range g.Nodes[0].From {
		g.Nodes[0].From[i] = 1
	}
	sameLists(t, "a mix of very many", run(t, begin(t, g), nil, 2), [][]float64{{5000, 5000}})
}

// TestK2Chain: as many nodes as there can be, each behind the next one.
func TestK2Chain(t *testing.T) {
	g := api.Graph{Ins: 1, Outs: []int{0}}
	for k := range 255 {
		g.Nodes = append(g.Nodes, []api.Node{gain(-1, k+1), mix(k + 1), delay(1, k+1)}[k%3])
	}
	g.Nodes = append(g.Nodes, input(0))
	ins := [][]float64{make([]float64, 100)}
	ins[0][3] = 1
	sameLists(t, "by the model", run(t, begin(t, g), ins, 100), isRun(g, ins, 100))
	if got := run(t, begin(t, g), ins, 100)[0][3+85]; got != -1 {
		t.Errorf("85 delays and 85 gains of -1 make it %v", got)
	}
}

func TestK2Many(t *testing.T) {
	refused(t, "nodes", api.Graph{Nodes: many(257)}, api.ErrMany)
	refused(t, "outs", api.Graph{Nodes: many(1), Outs: make([]int, 257)}, api.ErrMany)
	for _, ins := range []int{-1, 17, math.MinInt, math.MaxInt} {
		refused(t, "ins", api.Graph{Ins: ins}, api.ErrMany)
		refused(t, "ins, ahead of a node", api.Graph{Ins: ins, Nodes: []api.Node{{}}}, api.ErrMany)
	}
	refused(t, "nodes, ahead of a node", api.Graph{Nodes: make([]api.Node, 257)}, api.ErrMany)
	refused(t, "outs, ahead of a node", api.Graph{Nodes: make([]api.Node, 1), Outs: make([]int, 257)}, api.ErrMany)
	refused(t, "outs, ahead of an out", api.Graph{Outs: slices.Repeat([]int{-1}, 257)}, api.ErrMany)
}

func TestK2Kind(t *testing.T) {
	for _, kind := range []int{0, -1, 9, 10, 256, 257, math.MinInt, math.MaxInt} {
		for _, from := range [][]int{nil, {0}, {0, 1}, {9}} {
			refused(t, "a kind", api.Graph{Ins: 1, Nodes: []api.Node{steady(1), {Kind: kind, From: from, N: 1}}}, api.ErrKind)
		}
	}
}

// TestK2Listens tries each kind with any number of ears.
func TestK2Listens(t *testing.T) {
	ears := map[int]int{
		api.NodeInput: 0, api.NodeConst: 0, api.NodeGain: 1, api.NodeTimes: 2, api.NodeDelay: 1, api.NodeFilter: 1, api.NodeVoice: 0,
	}
	for kind := api.NodeInput; kind <= api.NodeVoice; kind++ {
		for n := range 6 {
			x := api.Node{Kind: kind, From: make([]int, n), N: 1, Patch: somePatch()}
			g := api.Graph{Ins: 2, Nodes: []api.Node{steady(1), x}}
			if kind == api.NodeMix || n == ears[kind] {
				begin(t, g)
				continue
			}
			refused(t, "ears", g, api.ErrMany)
		}
	}
}

func TestK2Fit(t *testing.T) {
	for _, k := range []int{-1, 2, 3, 256, math.MinInt, math.MaxInt} {
		for _, x := range []api.Node{gain(1, k), mix(k), mix(0, 0, k), mix(k, 0), times(k, 0), times(0, k), delay(1, k), strained(api.Coefs{}, k)} {
			refused(t, "no node", api.Graph{Nodes: []api.Node{steady(1), x}}, api.ErrFit)
		}
	}
	begin(t, api.Graph{Nodes: []api.Node{gain(1, 1), steady(1)}})
	for _, k := range []int{-1, 1, 256, math.MinInt, math.MaxInt} {
		refused(t, "no node is heard", api.Graph{Nodes: many(1), Outs: []int{0, k, 0}}, api.ErrFit)
	}
	refused(t, "there is none", api.Graph{Outs: []int{0}}, api.ErrFit)
}

func TestK2Range(t *testing.T) {
	for ins := range 17 {
		for _, n := range []int{-1, ins, ins + 1, math.MinInt, math.MaxInt} {
			refused(t, "a place", api.Graph{Ins: ins, Nodes: []api.Node{input(n)}}, api.ErrRange)
		}
	}
	for _, n := range []int{0, -1, 4097, math.MinInt, math.MaxInt} {
		refused(t, "a delay", api.Graph{Ins: 1, Nodes: []api.Node{delay(n, 0)}}, api.ErrRange)
	}
}

// TestK2Others: what is wrong with a filter or a voice is told as their chapters tell it.
func TestK2Others(t *testing.T) {
	for _, x := range []float64{0, 4194304, -4194304, 4194305, -4194304.5, math.Inf(1), math.NaN()} {
		for _, c := range []api.Coefs{{B0: x}, {B1: x}, {B2: x}, {A1: x}, {A2: x}} {
			_, want := filter.New(c)
			if _, err := graph.New(api.Graph{Nodes: []api.Node{steady(1), strained(c, 0)}}); err != want {
				t.Errorf("%+v: %d, not %d", c, err, want)
			}
		}
	}
	for _, p := range []api.Patch{
		{}, {Shape: 5}, {Shape: -1, Gain: math.NaN()}, {Shape: 1}, {Shape: 4, Gain: 1048576}, {Shape: 1, Gain: 1048577}, {Shape: 1, Gain: math.NaN()},
		{Shape: 1, Attack: -1}, {Shape: 1, Decay: 1<<24 + 1}, {Shape: 1, Release: 1 << 24}, {Shape: 1, Release: -1}, {Shape: 1, Sustain: 1 << 20}, {Shape: 1, Sustain: 1<<20 + 1},
	} {
		_, want := voice.New(p)
		if _, err := graph.New(api.Graph{Nodes: []api.Node{sings(p)}}); err != want {
			t.Errorf("%+v: %d, not %d", p, err, want)
		}
	}
	refused(t, "a filter", api.Graph{Nodes: []api.Node{steady(1), strained(api.Coefs{A1: math.NaN()}, 0)}}, api.ErrRange)
	refused(t, "a voice without a shape", api.Graph{Nodes: []api.Node{sings(api.Patch{Gain: math.NaN()})}}, api.ErrKind)
	refused(t, "a voice that is too loud", api.Graph{Nodes: []api.Node{sings(api.Patch{Shape: 1, Gain: 1048577})}}, api.ErrRange)
}

// TestK2OrderInNode: of several faults of one node the first one is told.
func TestK2OrderInNode(t *testing.T) {
	no := api.Coefs{B0: math.NaN()}
	for _, x := range []struct {
		node api.Node
		want api.Errno
	}{
		{api.Node{Kind: 9, From: []int{-1}, N: -1, Coefs: no}, api.ErrKind},
		{api.Node{Kind: api.NodeInput, From: []int{-1}, N: -1}, api.ErrMany},
		{api.Node{Kind: api.NodeInput, From: []int{0}, N: -1}, api.ErrMany},
		{api.Node{Kind: api.NodeConst, From: []int{-1}}, api.ErrMany},
		{api.Node{Kind: api.NodeGain, From: []int{-1, 0}}, api.ErrMany},
		{api.Node{Kind: api.NodeTimes, From: []int{-1}}, api.ErrMany},
		{api.Node{Kind: api.NodeDelay, From: []int{-1, -1}, N: 0}, api.ErrMany},
		{api.Node{Kind: api.NodeDelay, N: 0}, api.ErrMany},
		{api.Node{Kind: api.NodeDelay, From: []int{-1}, N: 0}, api.ErrFit},
		{api.Node{Kind: api.NodeFilter, Coefs: no}, api.ErrMany},
		{api.Node{Kind: api.NodeFilter, From: []int{-1}, Coefs: no}, api.ErrFit},
		{api.Node{Kind: api.NodeVoice, From: []int{-1}}, api.ErrMany},
		{api.Node{Kind: api.NodeVoice, From: []int{0}, Patch: api.Patch{Shape: 1, Gain: math.NaN()}}, api.ErrMany},
	} {
		refused(t, "a node", api.Graph{Ins: 1, Nodes: []api.Node{x.node}, Outs: []int{5}}, x.want)
	}
}

// TestK2OrderOfNodes: of several nodes that are wrong the first one is told; then come the outs, then loops.
func TestK2OrderOfNodes(t *testing.T) {
	wrong := []struct {
		node api.Node
		err  api.Errno
	}{
		{api.Node{}, api.ErrKind},
		{mix(99), api.ErrFit},
		{api.Node{Kind: api.NodeGain}, api.ErrMany},
		{input(3), api.ErrRange},
		{delay(0, 0), api.ErrRange},
		{strained(api.Coefs{B0: math.NaN()}, 0), api.ErrRange},
		{sings(api.Patch{}), api.ErrKind},
	}
	loop := mix(0)
	for _, x := range wrong {
		for _, y := range wrong {
			refused(t, "one of two", api.Graph{Ins: 1, Nodes: []api.Node{loop, x.node, y.node}, Outs: []int{7}}, x.err)
		}
		refused(t, "ahead of outs", api.Graph{Ins: 1, Nodes: []api.Node{loop, x.node}, Outs: []int{7}}, x.err)
		refused(t, "ahead of a loop", api.Graph{Ins: 1, Nodes: []api.Node{loop, x.node}}, x.err)
	}
	refused(t, "outs ahead of a loop", api.Graph{Nodes: []api.Node{loop}, Outs: []int{1}}, api.ErrFit)
	refused(t, "a loop", api.Graph{Nodes: []api.Node{loop}, Outs: []int{0}}, api.ErrLoop)
}

// ring has n nodes that listen round, each made by one of these.
func ring(n int, made ...func(of int) api.Node) api.Graph {
	var g api.Graph
	for k := range n {
		g.Nodes = append(g.Nodes, made[k%len(made)]((k+1)%n))
	}
	return g
}

func TestK2Loops(t *testing.T) {
	kinds := []func(of int) api.Node{
		func(of int) api.Node { return gain(0, of) },
		func(of int) api.Node { return mix(of) },
		func(of int) api.Node { return times(of, of) },
		func(of int) api.Node { return strained(api.Coefs{B1: 1}, of) },
	}
	for _, n := range []int{1, 2, 3, 4, 7, 255, 256} {
		for _, kind := range kinds {
			refused(t, "of one kind", ring(n, kind), api.ErrLoop)
		}
		g := ring(n, kinds...)
		refused(t, "of all kinds", g, api.ErrLoop)
		for _, k := range []int{0, n / 2, n - 1} {
			h := api.Graph{Nodes: slices.Clone(g.Nodes)}
			h.Nodes[k] = delay(1, (k+1)%n)
			begin(t, h)
		}
	}
	refused(t, "beside a delay", api.Graph{Nodes: []api.Node{mix(1, 2), delay(1, 0), gain(1, 0)}}, api.ErrLoop)
	refused(t, "behind a delay", api.Graph{Nodes: []api.Node{delay(1, 1), mix(0, 2), mix(1)}}, api.ErrLoop)
	refused(t, "by the second ear", api.Graph{Nodes: []api.Node{steady(1), times(0, 2), mix(0, 0, 1)}}, api.ErrLoop)
	refused(t, "that nobody hears", api.Graph{Nodes: []api.Node{steady(1), gain(1, 1)}, Outs: []int{0}}, api.ErrLoop)
	begin(t, api.Graph{Nodes: []api.Node{mix(1, 2, 3), mix(2, 3), mix(3), steady(1)}})
	begin(t, api.Graph{Nodes: []api.Node{delay(1, 0)}})
}

// goesRound asks of each pair of nodes whether one hears the other at once, by way of others or not.
func goesRound(g api.Graph) bool {
	hears := make([][]bool, len(g.Nodes))
	for k, x := range g.Nodes {
		hears[k] = make([]bool, len(g.Nodes))
		for _, i := range x.From {
			hears[k][i] = x.Kind != api.NodeDelay
		}
	}
	for by := range hears {
		for k := range hears {
			for i := range hears {
				hears[k][i] = hears[k][i] || hears[k][by] && hears[by][i]
			}
		}
	}
	for k := range hears {
		if hears[k][k] {
			return true
		}
	}
	return false
}

// TestK2LoopsDrawn draws who listens to whom, and counts so that both ways are seen often.
func TestK2LoopsDrawn(t *testing.T) {
	r := rand.New(rand.NewSource(21))
	var seen [2]int
	for range 5000 {
		g := api.Graph{Nodes: make([]api.Node, 1+r.Intn(9))}
		for k := range g.Nodes {
			x := mix()
			for range r.Intn(3) {
				x.From = append(x.From, r.Intn(len(g.Nodes)))
			}
			if len(x.From) == 1 && r.Intn(2) == 0 {
				x = delay(1, x.From[0])
			}
			g.Nodes[k] = x
		}
		want := api.OK
		if goesRound(g) {
			want = api.ErrLoop
		}
		seen[min(1, int(want))]++
		if x, err := graph.New(g); err != want || (x == nil) != (want != api.OK) {
			t.Fatalf("%+v: %v %d, not %d", g, x, err, want)
		}
	}
	if seen[0] < 500 || seen[1] < 500 {
		t.Errorf("%d without and %d with a loop", seen[0], seen[1])
	}
}

// TestK2Kept: what was handed in may change behind the call, and is only read in it.
func TestK2Kept(t *testing.T) {
	r := rand.New(rand.NewSource(22))
	for range 50 {
		g := drawnGraph(r, func() int { return 1 + r.Intn(5) })
		ins := someIns(r, g.Ins, 20)
		want := isRun(g, ins, 20)
		room := append(slices.Clone(g.Outs), 5, 5)
		g.Outs = room[:len(g.Outs)]
		before := api.Graph{Ins: g.Ins, Nodes: slices.Clone(g.Nodes), Outs: slices.Clone(room)}
		for k := range before.Nodes {
			before.Nodes[k].From = slices.Clone(g.Nodes[k].From)
		}
		x := begin(t, g)
		if !slices.Equal(room, before.Outs) {
			t.Fatalf("outs have changed")
		}
		for k, n := range g.Nodes {
			if !slices.Equal(n.From, before.Nodes[k].From) || n.Kind != before.Nodes[k].Kind || n.N != before.Nodes[k].N {
				t.Fatalf("node %d has changed", k)
			}
			clear(n.From)
			g.Nodes[k] = api.Node{}
		}
		clear(g.Outs)
		sameLists(t, "kept", run(t, x, ins, 20), want)
		x.Rest()
		sameLists(t, "kept, from rest", run(t, x, ins, 20), want)
	}
}
