package perm

import "plexus/api"

// chain is a shaped chain at work.
type chain api.Chain

// trivial returns the chain of the identity of n points alone.
func trivial(n int) chain {
	c := chain{N: n}
	for i := range n {
		c.L = append(c.L, api.Stage{Orbit: []int{i}, Rep: [][]int{identity(n)}})
	}
	return c
}

func isShaped(c api.Chain) bool {
	if c.N < 1 || c.N > api.MaxCanon || len(c.L) != c.N {
		return false
	}
	for i, s := range c.L {
		if !isStage(c.N, i, s) {
			return false
		}
	}
	return true
}

// isStage reports whether s is right as the stage i of a shaped chain of degree
// n.
func isStage(n, i int, s api.Stage) bool {
	if len(s.Orbit) < 1 || len(s.Rep) != len(s.Orbit) {
		return false
	}
	for k, j := range s.Orbit {
		g := s.Rep[k]
		if k > 0 && j <= s.Orbit[k-1] || !isOfDegree(n, g) || !fixesBelow(g, i) || g[i] != j {
			return false
		}
	}
	// This takes i to the first point, which therefore is i.
	return isIdentity(s.Rep[0])
}

// clone returns a stage that is s, in memory of its own.
func clone(s api.Stage) api.Stage {
	copied := api.Stage{Orbit: append([]int(nil), s.Orbit...)}
	for _, g := range s.Rep {
		copied.Rep = append(copied.Rep, append([]int(nil), g...))
	}
	return copied
}

// find returns the place of the point j in an orbit, or where it would be, and
// whether it is there.
func find(orbit []int, j int) (int, bool) {
	k := 0
	for k < len(orbit) && orbit[k] < j {
		k++
	}
	return k, k < len(orbit) && orbit[k] == j
}

// insert puts x at the place k of l, which it uses up.
func insert[T any](l []T, k int, x T) []T {
	l = append(l, x)
	copy(l[k+1:], l[k:])
	l[k] = x
	return l
}

// sift takes from g, stage by stage, the representative that takes the point of
// the stage where g takes it, so that what is left takes it to itself. It
// returns the stage that has none, and what is left there: this is N, and the
// identity, exactly if g is an element.
func (c chain) sift(g []int) (int, []int) {
	for i, s := range c.L {
		k, is := find(s.Orbit, g[i])
		if !is {
			return i, g
		}
		g = product(g, inverse(s.Rep[k]))
	}
	return c.N, g
}

func (c chain) has(g []int) bool {
	i, _ := c.sift(g)
	return i == c.N
}

// include makes g an element of c, which keeps all others, and reports whether
// it was none.
func (c chain) include(g []int) bool {
	i, rest := c.sift(g)
	if i == c.N {
		return false
	}
	s := &c.L[i]
	k, _ := find(s.Orbit, rest[i])
	s.Orbit = insert(s.Orbit, k, rest[i])
	// The rest may be g itself, which is not ours.
	s.Rep = insert(s.Rep, k, append([]int(nil), rest...))
	return true
}

// products yields the products of each representative with each one of its stage
// and of all later stages. If all of them are elements, so are all products of
// elements: by induction, with one stage more each time from the last one on,
// an element h r (r is of the first stage, h of later ones) multiplied by a
// representative s is h h' r', where h' r' is the element r s.
func (c chain) products(yield func(g []int) bool) {
	for i, first := range c.L {
		for _, second := range c.L[i:] {
			for _, r := range first.Rep {
				for _, s := range second.Rep {
					if !yield(product(r, s)) {
						return
					}
				}
			}
		}
	}
}

// elements yields the elements of c in lexicographic order, each in memory of
// its own.
func (c chain) elements(yield func(g []int) bool) {
	c.elementsEndingIn(identity(c.N), 0, yield)
}

// elementsEndingIn yields those elements that are products of representatives of
// the stages from i on with end, and reports whether it may go on after them.
func (c chain) elementsEndingIn(end []int, i int, yield func(g []int) bool) bool {
	if i == c.N {
		return yield(end)
	}
	// What is in front of the product of this stage takes i to itself, so that
	// the element takes i where this product takes it.
	for value := range c.N {
		for k, j := range c.L[i].Orbit {
			if end[j] == value && !c.elementsEndingIn(product(c.L[i].Rep[k], end), i+1, yield) {
				return false
			}
		}
	}
	return true
}
