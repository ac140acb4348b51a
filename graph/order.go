package graph

// longest bounds a stretch, so that what all nodes make in it takes little room.
const longest = 512

// How far the search for an order is with a node.
const (
	unseen = iota
	begun
	done
)

// inOrder puts each node behind those that it hears at once; there is no such order if they go round.
func inOrder(nodes []node) ([]int, bool) {
	var out []int
	seen := make([]int, len(nodes))
	var put func(l []int) bool
	put = func(l []int) bool {
		for _, i := range l {
			if seen[i] == begun {
				return false
			}
			if seen[i] == done {
				continue
			}
			seen[i] = begun
			if !put(now(nodes[i])) {
				return false
			}
			seen[i] = done
			out = append(out, i)
		}
		return true
	}
	for i := range nodes {
		if !put([]int{i}) {
			return nil, false
		}
	}
	return out, true
}

// now is what a node hears at once: nothing, if it tells ahead.
func now(n node) []int {
	if _, ok := n.(late); ok {
		return nil
	}
	return n.from()
}

// atOnce is how many samples can be made at once: as many as all that are late can tell ahead.
func atOnce(nodes []node) int {
	out := longest
	for _, n := range nodes {
		if l, ok := n.(late); ok {
			out = min(out, l.ahead())
		}
	}
	return out
}

func hearLate(n node, s stretch) {
	if l, ok := n.(late); ok {
		l.hear(s)
	}
}

func forget(n node) {
	if r, ok := n.(rester); ok {
		r.Rest()
	}
}
