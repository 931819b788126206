package design

import (
	"plexus/api"
	"plexus/incidence"
)

// state is how far a resolution has come: the block that was put into a class
// last, all blocks that were, and the points of those in the last class.
type state struct {
	last           int
	blocks, points set
}

// isResolvable reports whether x is valid and has blocks, none of them empty.
func isResolvable(x api.Inc) bool {
	// An empty block is the least one, and comes first.
	return incidence.Valid(x) && len(x.B) > 0 && x.B[0] != 0
}

// mayTake reports whether the block j may come next in an ordered resolution of
// x.
func (s state) mayTake(x api.Inc, j int) bool {
	if s.points == all(x.V) {
		// A new class begins with the least block that is left, since this one
		// could not come later: it would be the first of its class.
		return s.blocks&all(j+1) == all(j)
	}
	return j > s.last && !s.blocks.has(j) && s.points&set(x.B[j]) == 0
}

// with returns what s is after the block j of x was put into the last class, or
// into a new one if the last one has all points.
func (s state) with(x api.Inc, j int) state {
	points := set(x.B[j])
	if s.points != all(x.V) {
		points |= s.points
	}
	return state{last: j, blocks: s.blocks.with(j), points: points}
}

// isEnd reports whether all blocks of x are in classes with all points.
func (s state) isEnd(x api.Inc) bool {
	return s.points == all(x.V) && s.blocks == all(len(x.B))
}

// search returns the states after each block of the first ordered resolution of
// x, which is resolvable; none if there is no resolution.
func search(x api.Inc) []state {
	// There is nothing before the first class, as after one that has all points.
	path, from := []state{{points: all(x.V)}}, 0
search:
	for {
		now := path[len(path)-1]
		for j := from; j < len(x.B); j++ {
			if !now.mayTake(x, j) {
				continue
			}
			path, from = append(path, now.with(x, j)), 0
			if path[len(path)-1].isEnd(x) {
				break search
			}
			continue search
		}
		if len(path) == 1 {
			return nil
		}
		path, from = path[:len(path)-1], now.last+1
	}
	return path[1:]
}

// classes returns the resolution of x that these states have come to.
func classes(x api.Inc, path []state) [][]int {
	var l [][]int
	var class []int
	for _, s := range path {
		class = append(class, s.last)
		if s.points == all(x.V) {
			l, class = append(l, class), nil
		}
	}
	return l
}
