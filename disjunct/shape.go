package disjunct

import "plexus/api"

// mostFaulty returns the greatest D that p may have.
func mostFaulty(p api.Pool) int { return min(api.MaxFaulty, p.Items) }

func isUpTo(n, most int) bool { return n >= 0 && n <= most }

// areOfOneLength reports whether all words of l are of one length.
func areOfOneLength(l [][]int) bool {
	for _, w := range l {
		if len(w) != len(l[0]) {
			return false
		}
	}
	return true
}

// sharing returns, for each coordinate of the words of l and each symbol there,
// the indices of the words that have it.
func sharing(l [][]int) [][]int {
	var all [][]int
	for coordinate := range len(l[0]) {
		for i := range l {
			same := withSymbolOf(l, i, coordinate)
			// The others that are in it have the same list.
			if same[0] == i {
				all = append(all, same)
			}
		}
	}
	return all
}

// withSymbolOf returns the indices of the words of l that have the symbol of the
// word i at a coordinate, increasing.
func withSymbolOf(l [][]int, i, coordinate int) []int {
	var same []int
	for k, w := range l {
		if w[coordinate] == l[i][coordinate] {
			same = append(same, k)
		}
	}
	return same
}
