package perm

func isOfDegree(n int, g []int) bool { return len(g) == n && Valid(g) }

// areGenerators reports whether Orbits and Build accept gens for the degree n,
// but for its upper limit.
func areGenerators(n int, gens [][]int) bool {
	if n < 1 || len(gens) > maxGenerators {
		return false
	}
	for _, g := range gens {
		if !isOfDegree(n, g) {
			return false
		}
	}
	return true
}

func identity(n int) []int {
	g := make([]int, n)
	for i := range g {
		g[i] = i
	}
	return g
}

func isIdentity(g []int) bool { return fixesBelow(g, len(g)) }

// fixesBelow reports whether g takes each point below i to itself.
func fixesBelow(g []int, i int) bool {
	for p := range i {
		if g[p] != p {
			return false
		}
	}
	return true
}

func product(g, h []int) []int {
	p := make([]int, len(g))
	for i, j := range g {
		p[i] = h[j]
	}
	return p
}

func inverse(g []int) []int {
	h := make([]int, len(g))
	for i, j := range g {
		h[j] = i
	}
	return h
}

// image returns the set of g[i] for all points i in set.
func image(set uint64, g []int) uint64 {
	var b uint64
	for i, j := range g {
		b |= set >> i & 1 << j
	}
	return b
}

// leastPoints returns, for each of n points, the least one of its orbit.
func leastPoints(n int, gens [][]int) []int {
	leasts := identity(n)
	for again := true; again; {
		again = false
		for _, g := range gens {
			for i, j := range g {
				if leasts[i] != leasts[j] {
					least := min(leasts[i], leasts[j])
					leasts[i], leasts[j] = least, least
					again = true
				}
			}
		}
	}
	return leasts
}
