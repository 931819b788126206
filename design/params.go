package design

import "plexus/api"

// isRight reports whether p are right parameters.
func isRight(p api.Params) bool {
	return p.V >= 1 && p.V <= api.MaxPoints && 0 <= p.T && p.T <= p.K && p.K <= p.V &&
		p.T <= maxTogether && p.L >= 1 && p.L <= api.MaxBlocks
}

// isDesign reports whether the valid structure x is a design with p, which are
// right.
func isDesign(x api.Inc, p api.Params) bool {
	if x.V != p.V {
		return false
	}
	for _, b := range x.B {
		if set(b).size() != p.K {
			return false
		}
	}
	for s := range subsets(p.V, p.T) {
		if through(x, s) != p.L {
			return false
		}
	}
	return true
}

// combinations returns the number of k-subsets of a set of n elements.
func combinations(n, k int) int {
	c := 1
	for i := range k {
		// This is an integer each time: a number of combinations, too.
		c = c * (n - i) / (i + 1)
	}
	return c
}

// lowest returns the fraction of n and d, which are at least 1, in lowest terms.
func lowest(n, d int) api.Frac {
	divisor, rest := n, d
	for rest != 0 {
		divisor, rest = rest, divisor%rest
	}
	return api.Frac{N: n / divisor, D: d / divisor}
}
