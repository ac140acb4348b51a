package rules

import "cantus/api"

// none stands for the key ahead of the first one.
const none = -1

// state is all of a line on which the rest of it hangs: its last key, and whether the one ahead of that is the same.
type state struct {
	key   int
	again bool
}

func begun() state { return state{key: none} }

func (s state) then(key int) state { return state{key, key == s.key} }

// search has, of each place, the states in which a line can be there and still come to its end, with the ways to go on from them (at most MaxCount).
type search struct {
	rules api.Rules
	given []int
	ways  []map[state]int
}

// newSearch goes from the last place to the first, so that no line that comes to nothing is ever followed.
func newSearch(r api.Rules, given []int) *search {
	s := &search{r, given, make([]map[state]int, len(given))}
	for i := len(given) - 1; i >= 0; i-- {
		s.ways[i] = s.statesAt(i)
	}
	return s
}

// statesAt needs those of the place behind it.
func (s *search) statesAt(i int) map[state]int {
	out := map[state]int{}
	for key := s.rules.Low; key <= s.rules.High; key++ {
		if breaksAlone(s.rules, s.given, i, key) != 0 {
			continue
		}
		for _, at := range [2]state{{key, false}, {key, true}} {
			if n := s.waysBehind(i+1, at); n > 0 {
				out[at] = n
			}
		}
	}
	return out
}

// waysBehind is how many ways there are from place i to the end, at most MaxCount, if the line has come so far.
func (s *search) waysBehind(i int, before state) int {
	if i == len(s.given) {
		return 1
	}
	sum := 0
	for to, n := range s.ways[i] {
		if s.follows(i, before, to) {
			// None is below 0, so that in whatever order they come the sum is the same.
			sum = min(sum+n, api.MaxCount)
		}
	}
	return sum
}

// leastBehind is the state with the least key from which there is a way on.
func (s *search) leastBehind(i int, before state) (least state, ok bool) {
	for to := range s.ways[i] {
		if s.follows(i, before, to) && (!ok || to.key < least.key) {
			least, ok = to, true
		}
	}
	return least, ok
}

// follows is whether a line may come from one state into another one, at place i.
func (s *search) follows(i int, before, to state) bool {
	return to == before.then(to.key) && breaksBehind(s.rules, s.given, i, before, to.key) == 0
}
