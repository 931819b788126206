package incidence_test

import (
	"math/rand"
	"slices"
	"testing"

	"plexus/api"
	"plexus/incidence"
)

// sizes returns the numbers of points of the blocks of x, in order.
func sizes(x api.Inc) []int {
	var l []int
	for _, block := range lists(x) {
		l = append(l, len(block))
	}
	return l
}

func sum(l []int) int {
	n := 0
	for _, x := range l {
		n += x
	}
	return n
}

func sorted(l []int) []int { return slices.Sorted(slices.Values(l)) }

// P6.2: the image under one permutation and then under another one.
func TestImagesOfImages(t *testing.T) {
	source := rand.New(rand.NewSource(4))
	for _, x := range samples() {
		for _, g := range permutations(source, x.V) {
			for _, h := range permutations(source, x.V) {
				both := make([]int, x.V)
				for i := range both {
					both[i] = h[g[i]]
				}
				check(t, "Image of the image", incidence.Image(incidence.Image(x, g), h), incidence.Image(x, both), x)
			}
			inverse := make([]int, x.V)
			for i, p := range g {
				inverse[p] = i
			}
			check(t, "Image back", incidence.Image(incidence.Image(x, g), inverse), x, x)
		}
		check(t, "Image under nothing", incidence.Image(x, points(x.V)), x, x)
	}
}

// P6.2: degrees and pairs move with the points, and sizes stay.
func TestImagesKeepCounts(t *testing.T) {
	source := rand.New(rand.NewSource(5))
	for _, x := range samples() {
		degrees, pairs := incidence.Degrees(x), incidence.Pairs(x)
		for _, g := range permutations(source, x.V) {
			y := incidence.Image(x, g)
			newDegrees, newPairs := incidence.Degrees(y), incidence.Pairs(y)
			for i, p := range g {
				if newDegrees[p] != degrees[i] {
					t.Errorf("%v: the degree of %d is not that of %d after %v", x, i, p, g)
				}
				for j, q := range g {
					if newPairs[p][q] != pairs[i][j] {
						t.Errorf("%v: the pairs of %d and %d are not those of %d and %d after %v", x, i, j, p, q, g)
					}
				}
			}
			if !slices.Equal(sorted(sizes(y)), sorted(sizes(x))) {
				t.Errorf("%v: the sizes are %v after %v", x, sizes(y), g)
			}
		}
	}
}

// P6.3: counts of the dual.
func TestCountsOfDuals(t *testing.T) {
	for _, x := range samples() {
		if len(x.B) < 1 || len(x.B) > 16 {
			continue
		}
		dual, err := incidence.Dual(x)
		if err != api.OK {
			t.Errorf("Dual of %v: error %d", x, err)
			continue
		}
		if !sameRows(incidence.Pairs(dual), incidence.Meets(x)) {
			t.Errorf("Pairs of the dual of %v: %v", x, incidence.Pairs(dual))
		}
		if !slices.Equal(incidence.Degrees(dual), sizes(x)) {
			t.Errorf("Degrees of the dual of %v: %v", x, incidence.Degrees(dual))
		}
	}
}

// P6.3: the dual of the dual is an image: its points are in the order of the
// blocks of the dual.
func TestDualsOfDuals(t *testing.T) {
	for _, x := range samples() {
		dual, err := incidence.Dual(x)
		if err != api.OK {
			continue
		}
		again, err := incidence.Dual(dual)
		if err != api.OK {
			t.Errorf("Dual of %v: error %d", dual, err)
			continue
		}
		order := points(x.V)
		slices.SortStableFunc(order, func(i, j int) int {
			a, b := number(through(lists(x), i)), number(through(lists(x), j))
			switch {
			case a < b:
				return -1
			case a > b:
				return 1
			}
			return 0
		})
		g := make([]int, x.V)
		for to, from := range order {
			g[from] = to
		}
		check(t, "Dual of the dual", again, incidence.Image(x, g), x)
	}
}

// opened returns the blocks of x with a place for the point p, which all of them
// have, or none of them.
func opened(x api.Inc, p int, has bool) [][]int {
	l := lists(x)
	for _, block := range l {
		for k, i := range block {
			if i >= p {
				block[k]++
			}
		}
	}
	if has {
		for j := range l {
			l[j] = append(l[j], p)
		}
	}
	return l
}

// P6.4: each block goes into one of both parts, and degrees of the derived
// structure are numbers of Pairs.
func TestPartsTogether(t *testing.T) {
	for _, x := range samples() {
		if x.V == 1 {
			continue
		}
		pairs := incidence.Pairs(x)
		for p := range x.V {
			derived, err := incidence.Derived(x, p)
			residual, errResidual := incidence.Residual(x, p)
			if err != api.OK || errResidual != api.OK {
				t.Errorf("parts of %v at %d: errors %d, %d", x, p, err, errResidual)
				continue
			}
			both := append(opened(derived, p, true), opened(residual, p, false)...)
			if !same(structure(x.V, both), x) {
				t.Errorf("parts of %v at %d: %v and %v", x, p, derived, residual)
			}
			want := slices.Delete(slices.Clone(pairs[p]), p, p+1)
			if got := incidence.Degrees(derived); !slices.Equal(got, want) {
				t.Errorf("Degrees of %v derived at %d: %v, not %v", x, p, got, want)
			}
			if len(derived.B) != pairs[p][p] {
				t.Errorf("%v derived at %d: %v", x, p, derived)
			}
		}
	}
}

// P6.5.
func TestComplements(t *testing.T) {
	for _, x := range samples() {
		y := incidence.Complement(x)
		check(t, "Complement of the complement", incidence.Complement(y), x, x)
		before, after := incidence.Degrees(x), incidence.Degrees(y)
		for i := range x.V {
			if before[i]+after[i] != len(x.B) {
				t.Errorf("%v: the point %d is in %d blocks, and in %d complements", x, i, before[i], after[i])
			}
		}
	}
}

// P6.6.
func TestSums(t *testing.T) {
	for _, x := range samples() {
		if sum(incidence.Degrees(x)) != sum(sizes(x)) {
			t.Errorf("Degrees of %v: %v", x, incidence.Degrees(x))
		}
		for i, row := range incidence.Pairs(x) {
			want := 0
			for _, j := range through(lists(x), i) {
				want += sizes(x)[j]
			}
			if sum(row) != want || row[i] != incidence.Degrees(x)[i] {
				t.Errorf("Pairs of %v with the point %d: %v", x, i, row)
			}
		}
		for i, row := range incidence.Meets(x) {
			if row[i] != sizes(x)[i] {
				t.Errorf("Meets of %v with the block %d: %v", x, i, row)
			}
		}
	}
}

// P6.2 and F4: a permutation takes traces along.
func TestTracesOfImages(t *testing.T) {
	source := rand.New(rand.NewSource(7))
	for _, x := range samples() {
		for _, g := range permutations(source, x.V) {
			y := incidence.Image(x, g)
			for k := range x.V + 1 {
				if !slices.Equal(incidence.Traces(x, points(k)), incidence.Traces(y, g[:k])) {
					t.Errorf("Traces of %v on %d points are others after %v", x, k, g)
				}
			}
		}
	}
}
