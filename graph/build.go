package graph

import (
	"slices"

	"cantus/api"
)

func buildAll(g api.Graph) ([]node, api.Errno) {
	var out []node
	for _, n := range g.Nodes {
		if err := wrong(g, n); err != api.OK {
			return nil, err
		}
		x, err := build(n)
		if err != api.OK {
			return nil, err
		}
		out = append(out, x)
	}
	return out, api.OK
}

// wrong is what is wrong with a node, but for what it is made of in other chapters.
func wrong(g api.Graph, n api.Node) api.Errno {
	is, fits := listens(n.Kind, len(n.From))
	switch {
	case !is:
		return api.ErrKind
	case !fits:
		return api.ErrMany
	case !below(len(g.Nodes), n.From...):
		return api.ErrFit
	case n.Kind == api.NodeInput && !below(g.Ins, n.N):
		return api.ErrRange
	case n.Kind == api.NodeDelay && (n.N < 1 || n.N > api.MaxDelay):
		return api.ErrRange
	}
	return api.OK
}

// listens tells whether there is such a kind, and whether it listens to so many.
func listens(kind, many int) (is, fits bool) {
	switch kind {
	case api.NodeInput, api.NodeConst, api.NodeVoice:
		return true, many == 0
	case api.NodeGain, api.NodeDelay, api.NodeFilter:
		return true, many == 1
	case api.NodeTimes:
		return true, many == 2
	case api.NodeMix:
		return true, true
	}
	return false, false
}

func below(most int, l ...int) bool {
	for _, n := range l {
		if n < 0 || n >= most {
			return false
		}
	}
	return true
}

// build makes a node in which nothing is wrong so far.
func build(n api.Node) (node, api.Errno) {
	e := ears(slices.Clone(n.From))
	switch n.Kind {
	case api.NodeDelay:
		return &delay{ears: e, heard: make([]float64, n.N)}, api.OK
	case api.NodeFilter:
		return newStrainer(e, n.Coefs)
	case api.NodeVoice:
		return newSinger(e, n.Patch)
	}
	return simple{e, does(n, e)}, api.OK
}

func does(n api.Node, e ears) act {
	switch n.Kind {
	case api.NodeInput:
		return input(n.N)
	case api.NodeConst:
		return steady(n.X)
	case api.NodeGain:
		return gain(n.X, e[0])
	case api.NodeTimes:
		return times(e[0], e[1])
	}
	return mix(e)
}
