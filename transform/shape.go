package transform

import (
	"plexus/api"
	"plexus/rat"
)

const (
	maxSymbols = 16      // symbols of words
	maxWords   = 64      // words of a list
	maxPart    = 1 << 20 // the greatest N and D of a distance

	mostForNumbers    = 1 << 62 // the greatest q^n with numbers
	mostForTransforms = 1 << 30 // the greatest q^n with transforms
)

// haveWords reports whether there are words of length n over q symbols.
func haveWords(q, n int) bool { return q >= 2 && q <= maxSymbols && isUpTo(n, api.MaxLength) }

func isUpTo(n, most int) bool { return n >= 0 && n <= most }

// requireFewWords returns q^n, and panics if it is greater than most.
func requireFewWords(q, n, most int) int { return power(q, n, most) }

// areWords reports whether l is a list of words that has neither none nor too
// many.
func areWords(q, n int, l [][]int) bool {
	if len(l) == 0 || len(l) > maxWords {
		return false
	}
	for _, w := range l {
		if !isWord(q, n, w) {
			return false
		}
	}
	return true
}

func isWord(q, n int, w []int) bool {
	if len(w) != n {
		return false
	}
	for _, symbol := range w {
		if !isUpTo(symbol, q-1) {
			return false
		}
	}
	return true
}

// distance returns in how many places two words of one length differ.
func distance(v, w []int) int {
	count := 0
	for i, symbol := range v {
		if symbol != w[i] {
			count++
		}
	}
	return count
}

// totalOfWeights returns the sum of w, and panics unless w may be weights of
// words of length n: of at least one, and of not more than all of them.
func totalOfWeights(n, all int, w []int) int {
	require(len(w) == n+1, api.ErrArg)
	total := 0
	for _, count := range w {
		// The sum of numbers of any size might not fit an int.
		require(isUpTo(count, all-total), api.ErrArg)
		total += count
	}
	require(total > 0, api.ErrArg)
	return total
}

// totalOfDistances returns the sum of d, and panics unless d may be distances of
// words of length n, and their sum fits.
func totalOfDistances(n int, d []api.Frac) api.Frac {
	require(len(d) == n+1, api.ErrArg)
	for _, a := range d {
		require(rat.Valid(a) && isUpTo(a.N, maxPart) && a.D <= maxPart, api.ErrArg)
	}
	total := whole(0)
	for _, a := range d {
		total = fitting(rat.Add(total, a))
	}
	// A sum that does not fit has failed before, but it is not 0.
	require(total.N > 0, api.ErrArg)
	return total
}

// whole returns the fraction for n.
func whole(n int) api.Frac { return api.Frac{N: n, D: 1} }
