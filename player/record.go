package player

import "sync"

// record makes a track of each part. Each worker takes parts that none has taken, and only it writes their tracks, so that it is not to be seen who took which.
func record(parts [][]sung, block, workers int) [][]int {
	tracks := make([][]int, len(parts))
	next := make(chan int)
	var band sync.WaitGroup
	band.Add(workers)
	for range workers {
		go func() {
			defer band.Done()
			for i := range next {
				tracks[i] = track(parts[i], block)
			}
		}()
	}
	for i := range parts {
		next <- i
	}
	close(next)
	band.Wait()
	return tracks
}

// track is what is heard of all notes of a part, up to where the last one ends.
func track(part []sung, block int) []int {
	long := 0
	for _, n := range part {
		long = max(long, n.end())
	}
	out := make([]int, long)
	for _, n := range part {
		n.add(out, block)
	}
	return out
}
