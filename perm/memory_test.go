package perm_test

import (
	"math"
	"math/rand"
	"slices"
	"testing"

	"plexus/api"
	"plexus/perm"
)

// arguments are those of all functions.
type arguments struct {
	g, h []int
	n    int
	gens [][]int
	c    api.Chain
	k    int
	set  uint64
}

// call is what all functions return for the same arguments: lists are those of
// permutations, orbits and elements, numbers are errors, counts and answers.
type call struct {
	lists   [][]int
	chains  []api.Chain
	images  []uint64
	numbers []int
}

func callAll(a arguments) call {
	orbits, errOrbits := perm.Orbits(a.n, a.gens)
	built, errBuild := perm.Build(a.n, a.gens)
	c := call{
		lists:   slices.Concat([][]int{perm.Mul(a.g, a.h), perm.Inv(a.g)}, orbits, perm.Elements(a.c)),
		chains:  []api.Chain{built, perm.Fix(a.c, a.k)},
		images:  perm.Images(a.c, a.set),
		numbers: []int{perm.Order(a.g), int(errOrbits), int(errBuild), perm.Size(a.c)},
	}
	for _, is := range []bool{perm.Valid(a.g), perm.Right(a.c), perm.Has(a.c, a.g)} {
		c.numbers = append(c.numbers, map[bool]int{true: 1}[is])
	}
	return c
}

func (c call) equal(d call) bool {
	return same(c.lists, d.lists) && slices.EqualFunc(c.chains, d.chains, sameChain) &&
		slices.Equal(c.images, d.images) && slices.Equal(c.numbers, d.numbers)
}

// listsOf returns all lists of numbers of a chain.
func listsOf(c api.Chain) [][]int {
	var l [][]int
	for _, s := range c.L {
		l = append(append(l, s.Orbit), s.Rep...)
	}
	return l
}

// spoil writes to all results, also behind their ends, one after the other, and
// reports whether what is still to come stays as it is.
func (c call) spoil(want call) bool {
	got, wanted := c.lists, want.lists
	for i := range c.chains {
		got, wanted = append(got, listsOf(c.chains[i])...), append(wanted, listsOf(want.chains[i])...)
	}
	kept := len(got) == len(wanted)
	for i, l := range got {
		kept = kept && slices.Equal(l, wanted[i])
		l = l[:cap(l)]
		for j := range l {
			l[j] = -1
		}
	}
	for _, chain := range c.chains {
		for i := range chain.L {
			clear(chain.L[i].Rep[:cap(chain.L[i].Rep)])
		}
		clear(chain.L[:cap(chain.L)])
	}
	return kept
}

// roomy returns a copy of l with room behind it, which has to stay as it is.
func roomy(l []int) []int { return append(slices.Clone(l), 7, 8, 9)[:len(l)] }

func roomyLists(l [][]int) [][]int {
	var lists [][]int
	for _, g := range l {
		lists = append(lists, roomy(g))
	}
	return append(lists, []int{0}, []int{1})[:len(l)]
}

func roomyChain(c api.Chain) api.Chain {
	copied := api.Chain{N: c.N}
	for _, s := range c.L {
		copied.L = append(copied.L, api.Stage{Orbit: roomy(s.Orbit), Rep: roomyLists(s.Rep)})
	}
	copied.L = append(copied.L, api.Stage{Orbit: []int{3}}, api.Stage{Orbit: []int{4}})[:len(c.L)]
	return copied
}

func whole[T any](l []T) []T { return l[:cap(l)] }

// all returns all lists of the arguments, with what is behind them.
func (a arguments) all() [][]int {
	l := slices.Concat([][]int{a.g, a.h}, whole(a.gens))
	for _, s := range whole(a.c.L) {
		l = append(append(l, s.Orbit), whole(s.Rep)...)
	}
	var wholes [][]int
	for _, g := range l {
		wholes = append(wholes, whole(g))
	}
	return wholes
}

// P8.1 (H7), and results of memory of their own.
func TestMemoryIsNotShared(t *testing.T) {
	source := rand.New(rand.NewSource(10))
	for _, s := range samples() {
		if len(s.group) > 800 {
			continue
		}
		c := mustBuild(t, s)
		for k := -1; k <= s.n; k++ {
			g := s.group[source.Intn(len(s.group))]
			a := arguments{
				g: roomy(g), h: roomy(source.Perm(s.n)), n: s.n, gens: roomyLists(s.gens),
				c: roomyChain(c), k: k, set: source.Uint64(),
			}
			before := cloned(a.all())
			want := callAll(a)
			if !callAll(a).spoil(want) {
				t.Errorf("results for %v share memory", a)
			}
			if !same(a.all(), before) {
				t.Errorf("arguments were modified: %v", a)
			}
			if !callAll(a).equal(want) {
				t.Errorf("results for %v have changed", a)
			}
		}
	}
}

// P1: nothing panics or runs on, whatever the arguments are.
func TestNothingPanics(t *testing.T) {
	numbers := []int{math.MinInt, -1, 0, 1, 2, 3, 7, 8, 16, 17, 1 << 32, math.MaxInt}
	lists := [][]int{nil, {0}, {1}, {1, 0}, {0, 0}, {0, 2}, {-1, 0}, {2, 1, 0}, {1, 2, 0}, points(7), points(8), points(16), points(17), numbers, points(300)}
	for i, c := range append(someUnshaped(t), shapedChains(3)...) {
		// Not all lists with each chain, which would take long.
		for j := i % 4; j < len(lists); j += 4 {
			g := lists[j]
			n, h := numbers[(i+j)%len(numbers)], lists[(i+2*j)%len(lists)]
			callAll(arguments{g: g, h: h, n: n, gens: lists[:i%len(lists)], c: c, k: numbers[j%len(numbers)], set: math.MaxUint64 >> j})
			callAll(arguments{g: h, h: g, n: len(g), gens: slices.Repeat([][]int{g}, 1+i%101), c: c, k: n, set: uint64(i)})
		}
	}
}

// What is no permutation, and what is no shaped chain, has results that are zero
// values.
func TestOthersHaveNoResults(t *testing.T) {
	for n := 1; n <= 16; n++ {
		turn := append(points(n)[1:], 0)
		for _, g := range append(others(turn), nil, points(17)) {
			if len(perm.Mul(g, turn)) != 0 || len(perm.Mul(turn, g)) != 0 || len(perm.Inv(g)) != 0 || perm.Order(g) != 0 {
				t.Errorf("results for %v, which is no permutation", g)
			}
		}
		if n > 1 && (len(perm.Mul(points(n), points(n-1))) != 0 || len(perm.Mul(points(n-1), points(n))) != 0) {
			t.Errorf("a product of permutations of the degrees %d and %d", n-1, n)
		}
	}
	for _, c := range someUnshaped(t) {
		for k := range 9 {
			a := arguments{g: points(k), c: c, k: k, set: math.MaxUint64}
			if perm.Size(c) != 0 || perm.Has(c, a.g) || len(perm.Elements(c)) != 0 || !sameChain(perm.Fix(c, k), api.Chain{}) || len(perm.Images(c, a.set)) != 0 {
				t.Errorf("results for %v, which is not shaped", c)
			}
		}
	}
}
