package perm_test

import (
	"math/rand"
	"slices"
	"strings"
	"testing"

	"plexus/api"
	"plexus/perm"
)

// points returns 0 to n - 1.
func points(n int) []int {
	l := make([]int, n)
	for i := range l {
		l[i] = i
	}
	return l
}

// allPermutations returns the permutations of degree n, in order.
func allPermutations(n int) [][]int {
	l := [][]int{{}}
	for range n {
		var longer [][]int
		for _, g := range l {
			for i := range n {
				if !slices.Contains(g, i) {
					longer = append(longer, append(slices.Clone(g), i))
				}
			}
		}
		l = longer
	}
	return l
}

// after returns where first g and then h take each point.
func after(g, h []int) []int {
	var l []int
	for i := range g {
		l = append(l, h[g[i]])
	}
	return l
}

// back returns from where g takes something to each point.
func back(g []int) []int {
	var l []int
	for i := range g {
		l = append(l, slices.Index(g, i))
	}
	return l
}

// conjugate returns what takes h[i] to h[j] where g takes i to j.
func conjugate(g, h []int) []int { return after(after(back(h), g), h) }

// orderByHand returns the least common multiple of the lengths of the cycles.
func orderByHand(g []int) int {
	order := 1
	for i := range g {
		length := 1
		for j := g[i]; j != i; j = g[j] {
			length++
		}
		multiple := order
		for multiple%length != 0 {
			multiple += order
		}
		order = multiple
	}
	return order
}

func fixes(g []int, below int) bool { return slices.Equal(g[:below], points(below)) }

// key is the same for lists of small numbers that are the same.
func key(g []int) string {
	var s strings.Builder
	for _, i := range g {
		s.WriteByte(byte('a' + i))
	}
	return s.String()
}

func keys(l [][]int) map[string]bool {
	m := map[string]bool{}
	for _, g := range l {
		m[key(g)] = true
	}
	return m
}

// generated returns all products of generators, in order.
func generated(n int, gens [][]int) [][]int {
	l, seen := [][]int{points(n)}, map[string]bool{key(points(n)): true}
	for i := 0; i < len(l); i++ {
		for _, g := range gens {
			p := after(l[i], g)
			if k := key(p); !seen[k] {
				seen[k] = true
				l = append(l, p)
			}
		}
	}
	slices.SortFunc(l, slices.Compare[[]int])
	return l
}

// sample is a list of generators, and the group that they generate.
type sample struct {
	n     int
	gens  [][]int
	group [][]int
}

func newSample(n int, gens ...[]int) sample { return sample{n, gens, generated(n, gens)} }

// known are groups of many kinds, whose sizes are known.
func known() []struct {
	size int
	sample
} {
	turn, swap := []int{1, 2, 3, 4, 5, 6, 0}, []int{1, 0, 2, 3, 4, 5, 6}
	five := []int{1, 2, 3, 4, 0, 5}
	return []struct {
		size int
		sample
	}{
		{7, newSample(7, turn)},
		{14, newSample(7, turn, []int{0, 6, 5, 4, 3, 2, 1})},
		{21, newSample(7, turn, []int{0, 2, 4, 6, 1, 3, 5})},
		{42, newSample(7, turn, []int{0, 3, 6, 2, 5, 1, 4})},
		{168, newSample(7, turn, []int{0, 1, 4, 3, 2, 6, 5})},
		{2520, newSample(7, turn, []int{1, 2, 0, 3, 4, 5, 6})},
		{5040, newSample(7, turn, swap)},
		{720, newSample(7, []int{1, 2, 3, 4, 5, 0, 6}, swap)},
		{240, newSample(7, []int{1, 2, 3, 4, 0, 5, 6}, swap, []int{0, 1, 2, 3, 4, 6, 5})},
		{144, newSample(7, []int{1, 2, 3, 0, 4, 5, 6}, swap, []int{0, 1, 2, 3, 5, 4, 6}, []int{0, 1, 2, 3, 4, 6, 5})},
		{8, newSample(7, swap, []int{0, 1, 3, 2, 4, 5, 6}, []int{0, 1, 2, 3, 5, 4, 6})},
		{10, newSample(7, []int{1, 2, 3, 4, 0, 6, 5})},
		{12, newSample(7, []int{1, 2, 0, 4, 5, 6, 3})},
		{60, newSample(6, five, []int{5, 4, 2, 3, 1, 0})},
		{120, newSample(6, five, []int{0, 2, 4, 1, 3, 5}, []int{5, 4, 2, 3, 1, 0})},
		{72, newSample(6, []int{1, 2, 0, 3, 4, 5}, []int{1, 0, 2, 3, 4, 5}, []int{3, 4, 5, 0, 1, 2})},
		{48, newSample(6, []int{1, 0, 2, 3, 4, 5}, []int{2, 3, 4, 5, 0, 1}, []int{2, 3, 0, 1, 4, 5})},
		{18, newSample(6, []int{3, 4, 5, 0, 1, 2}, []int{1, 2, 0, 3, 4, 5})},
		{6, newSample(6, []int{1, 2, 0, 4, 5, 3}, []int{3, 5, 4, 0, 2, 1})},
		{20, newSample(5, []int{1, 2, 3, 4, 0}, []int{0, 2, 4, 1, 3})},
	}
}

// drawnPermutation returns a permutation of which many points stay where they
// are, so that small groups are generated too.
func drawnPermutation(source *rand.Rand, n int) []int {
	g := points(n)
	for range 1 + source.Intn(3) {
		i, j := source.Intn(n), source.Intn(n)
		g[i], g[j] = g[j], g[i]
	}
	return g
}

// samples returns the groups that any two permutations of few points generate,
// and others of all degrees, the same ones in each run.
func samples() []sample {
	var l []sample
	for n := 1; n <= 7; n++ {
		l = append(l, newSample(n), newSample(n, points(n)))
	}
	for n := 2; n <= 4; n++ {
		all := allPermutations(n)
		for i, g := range all {
			for _, h := range all[:i+1] {
				l = append(l, newSample(n, g, h))
			}
		}
	}
	source := rand.New(rand.NewSource(1))
	for _, k := range known() {
		l = append(l, k.sample, conjugated(k.sample, source.Perm(k.n)))
	}
	for n := 5; n <= 7; n++ {
		for range 20 {
			var gens [][]int
			for range 1 + source.Intn(4) {
				gens = append(gens, drawnPermutation(source, n))
			}
			l = append(l, newSample(n, gens...), newSample(n, source.Perm(n)))
		}
		l = append(l, newSample(n, source.Perm(n), source.Perm(n)), newSample(n, slices.Repeat(allPermutations(n)[:20], 5)...))
	}
	return l
}

// conjugated returns the group of the conjugates by h.
func conjugated(s sample, h []int) sample {
	var gens [][]int
	for _, g := range s.gens {
		gens = append(gens, conjugate(g, h))
	}
	return newSample(s.n, gens...)
}

// mustBuild returns the chain of a group.
func mustBuild(t *testing.T, s sample) api.Chain {
	t.Helper()
	c, err := perm.Build(s.n, s.gens)
	if err != api.OK {
		t.Fatalf("Build of %v: error %d", s.gens, err)
	}
	return c
}

// stabilizer returns the elements that take each point below k to itself.
func (s sample) stabilizer(k int) [][]int {
	var l [][]int
	for _, g := range s.group {
		if fixes(g, k) {
			l = append(l, g)
		}
	}
	return l
}

// orbit returns the points to which elements of l take i.
func orbit(l [][]int, i int) []int {
	var orbit []int
	for _, g := range l {
		orbit = append(orbit, g[i])
	}
	slices.Sort(orbit)
	return slices.Compact(orbit)
}

// imageOf returns the image of a set of points under g.
func imageOf(set uint64, g []int) uint64 {
	var places []int
	for i := range g {
		if set/(1<<i)%2 == 1 {
			places = append(places, g[i])
		}
	}
	b := uint64(0)
	for _, j := range places {
		b += 1 << j
	}
	return b
}

// images returns the different images of a set of points under the elements.
func (s sample) images(set uint64) []uint64 {
	var images []uint64
	for _, g := range s.group {
		images = append(images, imageOf(set, g))
	}
	slices.Sort(images)
	return slices.Compact(images)
}

// productsOf returns the elements of a shaped chain, in any order.
func productsOf(c api.Chain) [][]int {
	l := [][]int{points(c.N)}
	for _, s := range c.L {
		var longer [][]int
		for _, later := range l {
			for _, r := range s.Rep {
				longer = append(longer, after(r, later))
			}
		}
		l = longer
	}
	return l
}

func same(a, b [][]int) bool { return slices.EqualFunc(a, b, slices.Equal[[]int]) }

func sameStage(a, b api.Stage) bool { return slices.Equal(a.Orbit, b.Orbit) && same(a.Rep, b.Rep) }

func sameChain(a, b api.Chain) bool { return a.N == b.N && slices.EqualFunc(a.L, b.L, sameStage) }

func cloned(l [][]int) [][]int {
	var copied [][]int
	for _, g := range l {
		copied = append(copied, slices.Clone(g))
	}
	return copied
}

func clonedChain(c api.Chain) api.Chain {
	copied := api.Chain{N: c.N}
	for _, s := range c.L {
		copied.L = append(copied.L, api.Stage{Orbit: slices.Clone(s.Orbit), Rep: cloned(s.Rep)})
	}
	return copied
}

// trivial returns the chain of the identity alone.
func trivial(n int) api.Chain {
	c := api.Chain{N: n}
	for i := range n {
		c.L = append(c.L, api.Stage{Orbit: []int{i}, Rep: [][]int{points(n)}})
	}
	return c
}
