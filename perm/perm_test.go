package perm_test

import (
	"math"
	"math/rand"
	"slices"
	"testing"

	"plexus/api"
	"plexus/perm"
)

// P8.1: the examples of the chapter.
func TestExamples(t *testing.T) {
	if g := perm.Mul([]int{1, 2, 0}, []int{0, 2, 1}); !slices.Equal(g, []int{2, 1, 0}) {
		t.Errorf("Mul: %v", g)
	}
	if g := perm.Inv([]int{1, 2, 0}); !slices.Equal(g, []int{2, 0, 1}) {
		t.Errorf("Inv: %v", g)
	}
	if k := perm.Order([]int{1, 0, 3, 4, 2}); k != 6 {
		t.Errorf("Order: %d", k)
	}
	if l, err := perm.Orbits(5, [][]int{{1, 0, 2, 4, 3}}); !same(l, [][]int{{0, 1}, {2}, {3, 4}}) || err != api.OK {
		t.Errorf("Orbits: %v, error %d", l, err)
	}
	c, err := perm.Build(4, [][]int{{1, 2, 3, 0}, {3, 2, 1, 0}})
	if err != api.OK || perm.Size(c) != 8 || !perm.Has(c, []int{1, 0, 3, 2}) || perm.Has(c, []int{1, 0, 2, 3}) {
		t.Errorf("Build: %v, error %d", c, err)
	}
	for i, want := range [][]int{{0, 1, 2, 3}, {1, 3}, {2}, {3}} {
		if !slices.Equal(c.L[i].Orbit, want) {
			t.Errorf("orbit %d: %v, not %v", i, c.L[i].Orbit, want)
		}
	}
	for set, want := range map[uint64][]uint64{3: {3, 6, 9, 12}, 5: {5, 10}} {
		if l := perm.Images(c, set); !slices.Equal(l, want) {
			t.Errorf("Images of %d: %v, not %v", set, l, want)
		}
	}
	if c, err := perm.Build(8, nil); c.N != 0 || len(c.L) != 0 || err != api.ErrArg {
		t.Errorf("Build of degree 8: %v, error %d", c, err)
	}
}

// allLists returns all lists of n numbers from -1 to n + 1.
func allLists(n int) [][]int {
	l := [][]int{{}}
	for range n {
		var longer [][]int
		for _, g := range l {
			for j := -1; j <= n+1; j++ {
				longer = append(longer, append(slices.Clone(g), j))
			}
		}
		l = longer
	}
	return l
}

// P8.1: Valid for all short lists of small numbers.
func TestValidForAllLists(t *testing.T) {
	for n, want := range []int{0, 1, 2, 6, 24, 120} {
		permutations, valid := keys(allPermutations(n)), 0
		for _, g := range allLists(n) {
			is := perm.Valid(g)
			if is {
				valid++
			}
			if is && !permutations[key(g)] {
				t.Errorf("valid: %v", g)
			}
		}
		if valid != want {
			t.Errorf("%d permutations of degree %d, not %d", valid, n, want)
		}
	}
}

// others returns lists that differ from a permutation in one place, or by an
// element that is missing or is there in addition.
func others(g []int) [][]int {
	var l [][]int
	n := len(g)
	for i := range n {
		for _, j := range append(points(n), math.MinInt, -n, -1, n, n+1, 16, 17, 64, 1<<32, math.MaxInt) {
			if j != g[i] {
				other := slices.Clone(g)
				other[i] = j
				l = append(l, other)
			}
		}
		if g[i] != n-1 {
			l = append(l, slices.Delete(slices.Clone(g), i, i+1))
		}
		l = append(l, slices.Insert(slices.Clone(g), i, i))
	}
	return l
}

// P8.1: Valid for all degrees.
func TestValid(t *testing.T) {
	source := rand.New(rand.NewSource(2))
	for n := 1; n <= 16; n++ {
		for range 10 {
			g := source.Perm(n)
			if !perm.Valid(g) {
				t.Errorf("not valid: %v", g)
			}
			for _, other := range others(g) {
				if perm.Valid(other) {
					t.Errorf("valid: %v", other)
				}
			}
		}
	}
	for _, n := range []int{17, 18, 32, 64, 65, 1000} {
		if perm.Valid(points(n)) || perm.Valid(make([]int, n)) {
			t.Errorf("valid of degree %d", n)
		}
	}
	if perm.Valid(nil) || perm.Valid([]int{}) {
		t.Error("valid without points")
	}
}

// somePermutations returns all permutations of few points, and others of all
// degrees.
func somePermutations() [][][]int {
	l := [][][]int{nil}
	source := rand.New(rand.NewSource(3))
	for n := 1; n <= 16; n++ {
		permutations := [][]int{points(n), append(points(n)[1:], 0)}
		if n <= 4 {
			permutations = allPermutations(n)
		}
		for n > 4 && len(permutations) < 30 {
			permutations = append(permutations, source.Perm(n), drawnPermutation(source, n))
		}
		l = append(l, permutations)
	}
	return l
}

// P8.1: Mul, Inv and Order.
func TestProductsInversesAndOrders(t *testing.T) {
	for _, l := range somePermutations() {
		for _, g := range l {
			for _, h := range l {
				if p := perm.Mul(g, h); !slices.Equal(p, after(g, h)) {
					t.Errorf("Mul of %v and %v: %v", g, h, p)
				}
			}
			if inverse := perm.Inv(g); !slices.Equal(inverse, back(g)) {
				t.Errorf("Inv of %v: %v", g, inverse)
			}
			if k := perm.Order(g); k != orderByHand(g) {
				t.Errorf("Order of %v: %d", g, k)
			}
		}
	}
	// The greatest order of a permutation of 16 points.
	if k := perm.Order([]int{1, 2, 3, 0, 5, 6, 7, 8, 4, 10, 11, 12, 13, 14, 15, 9}); k != 140 {
		t.Errorf("order %d, not 140", k)
	}
}

// orbitsByHand walks from each point on.
func orbitsByHand(n int, gens [][]int) [][]int {
	var orbits [][]int
	done := map[int]bool{}
	for i := range n {
		if done[i] {
			continue
		}
		orbit := []int{i}
		done[i] = true
		for k := 0; k < len(orbit); k++ {
			for _, g := range gens {
				if j := g[orbit[k]]; !done[j] {
					done[j] = true
					orbit = append(orbit, j)
				}
			}
		}
		slices.Sort(orbit)
		orbits = append(orbits, orbit)
	}
	return orbits
}

func checkOrbits(t *testing.T, n int, gens, want [][]int) {
	t.Helper()
	if l, err := perm.Orbits(n, gens); !same(l, want) || err != api.OK {
		t.Errorf("Orbits of %v: %v, error %d, not %v", gens, l, err, want)
	}
}

// P8.1: Orbits under groups all of whose elements are known.
func TestOrbitsOfGroups(t *testing.T) {
	for _, s := range samples() {
		var want [][]int
		for i := range s.n {
			if l := orbit(s.group, i); l[0] == i {
				want = append(want, l)
			}
		}
		checkOrbits(t, s.n, s.gens, want)
	}
}

// P8.1: Orbits of all degrees.
func TestOrbits(t *testing.T) {
	source := rand.New(rand.NewSource(4))
	for n := 1; n <= 16; n++ {
		for range 100 {
			var gens [][]int
			for range source.Intn(6) {
				gens = append(gens, drawnPermutation(source, n))
			}
			checkOrbits(t, n, gens, orbitsByHand(n, gens))
		}
		// Neighbours are exchanged along a path through all points, in any order.
		for range 20 {
			var gens [][]int
			path := source.Perm(n)
			for i := 1; i < n; i++ {
				g := points(n)
				g[path[i-1]], g[path[i]] = path[i], path[i-1]
				gens = append(gens, g)
			}
			checkOrbits(t, n, gens, [][]int{points(n)})
		}
		checkOrbits(t, n, nil, orbitsByHand(n, nil))
		checkOrbits(t, n, slices.Repeat([][]int{points(n)}, 100), orbitsByHand(n, nil))
	}
}

// refused are degrees and generators that neither Orbits nor Build accepts.
func refused() []sample {
	l := []sample{
		{n: 1, gens: slices.Repeat([][]int{{0}}, 101)},
		{n: 7, gens: slices.Repeat([][]int{points(7)}, 101)},
		{n: 3, gens: slices.Repeat([][]int{{1, 2, 0}}, 1000)},
		{n: 2, gens: slices.Repeat([][]int{nil}, 101)},
	}
	for _, n := range []int{math.MinInt, -16, -7, -1, 0, 17, 18, 64, 1<<32 + 3, math.MaxInt} {
		l = append(l, sample{n: n}, sample{n: n, gens: [][]int{{1, 0}}}, sample{n: n, gens: [][]int{nil}}, sample{n: n, gens: [][]int{points(17)}})
	}
	for n := 1; n <= 7; n++ {
		turn := append(points(n)[1:], 0)
		for _, other := range append(others(turn), nil, points(n-1), points(n+1), points(17)) {
			l = append(l, sample{n: n, gens: [][]int{other}}, sample{n: n, gens: [][]int{turn, other, turn}}, sample{n: n, gens: [][]int{turn, points(n), other}})
		}
	}
	return l
}

// P8.1: what Orbits and Build refuse.
func TestGeneratorsAreRefused(t *testing.T) {
	for _, s := range refused() {
		if l, err := perm.Orbits(s.n, s.gens); len(l) != 0 || err != api.ErrArg {
			t.Errorf("Orbits of %d, %v: %v, error %d", s.n, s.gens, l, err)
		}
		if c, err := perm.Build(s.n, s.gens); !sameChain(c, api.Chain{}) || err != api.ErrArg {
			t.Errorf("Build of %d, %v: %v, error %d", s.n, s.gens, c, err)
		}
	}
	for n := 8; n <= 16; n++ {
		for _, gens := range [][][]int{nil, {points(n)}, {append(points(n)[1:], 0)}} {
			if c, err := perm.Build(n, gens); !sameChain(c, api.Chain{}) || err != api.ErrArg {
				t.Errorf("Build of %d, %v: %v, error %d", n, gens, c, err)
			}
		}
		for _, other := range others(points(n)) {
			if l, err := perm.Orbits(n, [][]int{points(n), other}); len(l) != 0 || err != api.ErrArg {
				t.Errorf("Orbits of %d, %v: %v, error %d", n, other, l, err)
			}
		}
	}
}

// isPermutation reports whether g, sorted, is 0 to n - 1.
func isPermutation(n int, g []int) bool {
	sorted := slices.Clone(g)
	slices.Sort(sorted)
	return slices.Equal(sorted, points(n))
}

// checkShape fails the test unless c is a shaped chain of degree n.
func checkShape(t *testing.T, n int, c api.Chain) {
	t.Helper()
	if c.N != n || len(c.L) != n {
		t.Fatalf("degree %d: %v", n, c)
	}
	for i, s := range c.L {
		if !slices.Contains(s.Orbit, i) || !slices.IsSorted(s.Orbit) || len(slices.Compact(slices.Clone(s.Orbit))) != len(s.Orbit) || len(s.Rep) != len(s.Orbit) {
			t.Fatalf("stage %d: %v", i, s)
		}
		for k, j := range s.Orbit {
			g := s.Rep[k]
			if !isPermutation(n, g) || !fixes(g, i) || g[i] != j || j < i || j == i && !fixes(g, n) {
				t.Errorf("stage %d: %v", i, s)
			}
		}
	}
}

// P8.1: Build, and functions of the chain that it returns.
func TestChains(t *testing.T) {
	for _, s := range samples() {
		c := mustBuild(t, s)
		checkShape(t, s.n, c)
		for i, stage := range c.L {
			if want := orbit(s.stabilizer(i), i); !slices.Equal(stage.Orbit, want) {
				t.Errorf("group of %v: the orbit of the stage %d is %v, not %v", s.gens, i, stage.Orbit, want)
			}
		}
		if !perm.Right(c) || perm.Size(c) != len(s.group) {
			t.Errorf("group of %v: %v is no chain with %d elements", s.gens, c, len(s.group))
		}
		if l := perm.Elements(c); !same(l, s.group) {
			t.Errorf("group of %v: the elements are %v, not %v", s.gens, l, s.group)
		}
	}
}

// P8.1: the sizes of groups that are known.
func TestKnownSizes(t *testing.T) {
	for _, k := range known() {
		if n := perm.Size(mustBuild(t, k.sample)); n != k.size {
			t.Errorf("group of %v: %d elements, not %d", k.gens, n, k.size)
		}
	}
}

// P8.1: Has for all permutations of the degree, and for other lists.
func TestHas(t *testing.T) {
	var all [8][][]int
	for n := range all {
		all[n] = allPermutations(n)
	}
	for i, s := range samples() {
		c, elements := mustBuild(t, s), keys(s.group)
		for k, g := range all[s.n] {
			// Not all of many permutations for each group, which would take long.
			if s.n > 5 && (i+k)%17 != 0 && !elements[key(g)] {
				continue
			}
			if is := perm.Has(c, g); is != elements[key(g)] {
				t.Errorf("group of %v: Has of %v is %t", s.gens, g, is)
			}
		}
		last := s.group[len(s.group)-1]
		for _, other := range append(others(last), nil, points(s.n+1), append(slices.Clone(last), s.n), points(16), points(17), points(100)) {
			if perm.Has(c, other) {
				t.Errorf("group of %v: Has of %v", s.gens, other)
			}
		}
	}
}

// P8.1: Fix.
func TestFix(t *testing.T) {
	for _, s := range samples() {
		c := mustBuild(t, s)
		for _, k := range append(points(s.n+3), math.MinInt, -1, 64, 1<<32, math.MaxInt) {
			want := trivial(s.n)
			for i := range s.n {
				if i >= k {
					want.L[i] = c.L[i]
				}
			}
			if fixed := perm.Fix(c, k); !sameChain(fixed, want) {
				t.Errorf("group of %v: Fix of %d is %v, not %v", s.gens, k, fixed, want)
			}
		}
	}
}

// P8.1: Images, also of sets with bits from N on.
func TestImages(t *testing.T) {
	for i, s := range samples() {
		c := mustBuild(t, s)
		for set := range uint64(1) << s.n {
			// Not all sets for each large group, which would take long.
			if len(s.group) > 500 && (uint64(i)+set)%13 != 0 {
				continue
			}
			want := s.images(set)
			for _, more := range []uint64{0, 1 << s.n, 1 << 63, math.MaxUint64 << s.n} {
				if l := perm.Images(c, set|more); !slices.Equal(l, want) {
					t.Errorf("group of %v: Images of %d is %v, not %v", s.gens, set|more, l, want)
				}
			}
		}
	}
}
