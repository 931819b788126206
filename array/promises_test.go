package array_test

import (
	"math/rand"
	"slices"
	"testing"

	"plexus/api"
	"plexus/array"
)

// measured is what P11.2 says that permutations do not change.
type measured struct{ strength, missing, index [9]int }

func measure(a api.Array) measured {
	var m measured
	for t := range len(a.R[0]) + 1 {
		m.strength[t] = array.Strength(a)
		m.missing[t] = array.Missing(a, t)
		m.index[t] = array.Index(a, t)
	}
	return m
}

// P11.2: indices, and what is orthogonal covers.
func TestIndices(t *testing.T) {
	for _, a := range append(small(), samples(t)...) {
		strength := array.Strength(a)
		for n := 1; n <= strength; n++ {
			if !array.Covers(a, n) || array.Missing(a, n) != 0 {
				t.Errorf("%v has strength %d, and does not cover %d", a, strength, n)
			}
			if n >= 2 && array.Index(a, n)*a.S != array.Index(a, n-1) {
				t.Errorf("indices of %v: %d, then %d", a, array.Index(a, n-1), array.Index(a, n))
			}
		}
	}
}

// permuted returns a with its rows, its columns, and the levels of each column
// permuted.
func permuted(source *rand.Rand, a api.Array) api.Array {
	columns := source.Perm(len(a.R[0]))
	b := api.Array{S: a.S, R: picked(a.R, source.Perm(len(a.R)))}
	for i, row := range b.R {
		b.R[i] = picked(row, columns)
	}
	for c := range columns {
		levels := source.Perm(a.S)
		for i := range b.R {
			b.R[i][c] = levels[b.R[i][c]]
		}
	}
	return b
}

// P11.2: permutations of the rows, of the columns, and of the levels of a column.
func TestPermutedArrays(t *testing.T) {
	source := rand.New(rand.NewSource(5))
	for _, a := range append(small(), samples(t)...) {
		b := permuted(source, a)
		if measure(a) != measure(b) {
			t.Errorf("%v: %v, but permuted: %v", a, measure(a), measure(b))
		}
	}
}

// P11.3: different columns of an array, in any order.
func TestSelectedStrength(t *testing.T) {
	source := rand.New(rand.NewSource(6))
	for _, o := range known(t) {
		for range 10 {
			columns := source.Perm(len(o.a.R[0]))[:1+source.Intn(len(o.a.R[0]))]
			b := must(t)(array.Select(o.a, columns))
			if n := min(o.strength, len(columns)); array.Strength(b) < n {
				t.Errorf("columns %v of %v, of strength %d: strength %d", columns, o.a, o.strength, array.Strength(b))
			}
		}
	}
}

// P11.3: stacked arrays.
func TestStackedStrength(t *testing.T) {
	l := samples(t)
	gained := 0
	for i, a := range l {
		for _, b := range append(l[:i:i], a) {
			stacked, err := array.Stack(a, b)
			if err != api.OK {
				continue
			}
			lesser := min(array.Strength(a), array.Strength(b))
			if array.Strength(stacked) < lesser {
				t.Errorf("%v and %v stacked: strength %d, not %d", a, b, array.Strength(stacked), lesser)
			}
			for n := 1; n <= lesser; n++ {
				if array.Index(stacked, n) != array.Index(a, n)+array.Index(b, n) {
					t.Errorf("%v and %v stacked: index of strength %d is %d", a, b, n, array.Index(stacked, n))
				}
				gained++
			}
			for n := 1; n <= len(a.R[0]); n++ {
				if array.Missing(stacked, n) > min(array.Missing(a, n), array.Missing(b, n)) {
					t.Errorf("%v and %v stacked: %d of strength %d missing", a, b, array.Missing(stacked, n), n)
				}
			}
		}
	}
	if gained < 100 {
		t.Errorf("indices added up in %d cases alone", gained)
	}
}

// areOrthogonal says whether the pairs of the symbols of two squares are all
// different.
func areOrthogonal(a, b [][]int) bool {
	var pairs [][2]int
	for i, row := range a {
		for j, s := range row {
			pair := [2]int{s, b[i][j]}
			if slices.Contains(pairs, pair) {
				return false
			}
			pairs = append(pairs, pair)
		}
	}
	return true
}

// anyTwoAreOrthogonal says whether any two squares of l are.
func anyTwoAreOrthogonal(l [][][]int) bool {
	for i, b := range l {
		if slices.ContainsFunc(l[:i], func(a [][]int) bool { return !areOrthogonal(a, b) }) {
			return false
		}
	}
	return true
}

// checkOrthogonal fails the test unless the array of squares has strength 2
// exactly if any two of them are orthogonal, and returns whether they are.
func checkOrthogonal(t *testing.T, n int, l [][][]int) bool {
	t.Helper()
	a := must(t)(array.FromSquares(n, l))
	strength, index := 1, 0
	is := anyTwoAreOrthogonal(l)
	if is {
		strength, index = 2, 1
	}
	if array.Strength(a) != strength || array.Index(a, 2) != index {
		t.Errorf("array of %v: strength %d, index %d", l, array.Strength(a), array.Index(a, 2))
	}
	return is
}

// P11.4: families, and families with other squares in them.
func TestOrthogonalSquares(t *testing.T) {
	source := rand.New(rand.NewSource(7))
	var found [2]int
	for n := 2; n <= 8; n++ {
		for range 20 {
			rows, columns := source.Perm(n), source.Perm(n)
			var l [][][]int
			for _, square := range family(t, n) {
				l = append(l, turned(t, square, rows, columns, source.Perm(n)))
			}
			l = picked(l, source.Perm(len(l)))[:1+source.Intn(min(len(l), 6))]
			if !checkOrthogonal(t, n, l) {
				t.Errorf("squares of a family are not orthogonal: %v", l)
			}
			checkOrthogonal(t, n, nil)
			l[source.Intn(len(l))] = turned(t, cyclic(t, n), source.Perm(n), source.Perm(n), source.Perm(n))
			if checkOrthogonal(t, n, l) {
				found[1]++
			} else {
				found[0]++
			}
		}
	}
	if found[0] < 20 || found[1] < 20 {
		t.Errorf("squares are orthogonal in %d cases, and not in %d", found[1], found[0])
	}
}

// P11.4: all squares of order 3, up to three of them.
func TestAllSmallSquares(t *testing.T) {
	var squares [][][]int
	for _, a := range words(3, 9) {
		l := slices.Collect(slices.Chunk(a, 3))
		if _, err := array.FromSquares(3, [][][]int{l}); err == api.OK {
			squares = append(squares, l)
		}
	}
	pairs := 0
	for _, a := range squares {
		for _, b := range squares {
			if checkOrthogonal(t, 3, [][][]int{a, b}) {
				pairs++
			}
			for _, c := range squares {
				// There are no three orthogonal squares of order 3.
				if checkOrthogonal(t, 3, [][][]int{a, b, c}) {
					t.Errorf("%v, %v and %v are orthogonal", a, b, c)
				}
			}
		}
	}
	if len(squares) != 12 || pairs != 72 {
		t.Errorf("%d squares, of which %d pairs are orthogonal", len(squares), pairs)
	}
}

// P11.5: what is orthogonal has as many rows as the bound of Rao says.
func TestBoundOfRao(t *testing.T) {
	reached := 0
	for _, a := range append(small(), samples(t)...) {
		k := len(a.R[0])
		for n := range k + 1 {
			bound := array.Rao(k, a.S, n)
			if n <= array.Strength(a) && len(a.R) < bound {
				t.Errorf("%v has strength %d, but the bound is %d", a, n, bound)
			}
			if n > 0 && n == array.Strength(a) && len(a.R) == bound {
				reached++
			}
		}
	}
	if reached < 10 {
		t.Errorf("the bound is reached by %d arrays alone", reached)
	}
}

// P11.5: what covers a strength has as many rows as there are lists of levels.
func TestBoundOfCovering(t *testing.T) {
	checkRows := func(a api.Array) {
		for n := 1; n <= len(a.R[0]); n++ {
			if array.Covers(a, n) && len(a.R) < powerByHand(a.S, n) {
				t.Errorf("%v covers strength %d", a, n)
			}
		}
	}
	for _, a := range append(small(), samples(t)...) {
		checkRows(a)
	}
	covers(func(k, s, n int, a api.Array) { checkRows(a) })
}

// P11.6: what Cover returns is valid, covers, and has no row that is not needed
// behind those before it.
func TestCovers(t *testing.T) {
	count := 0
	covers(func(k, s, n int, a api.Array) {
		count++
		if !array.Valid(a) || a.S != s || len(a.R[0]) != k || !array.Covers(a, n) {
			t.Errorf("Cover of %d, %d and %d: %v", k, s, n, a)
		}
		before := powerByHand(s, n) * len(subsets(k, n))
		for i := range a.R {
			missing := array.Missing(api.Array{S: s, R: a.R[:i+1]}, n)
			if missing >= before {
				t.Errorf("Cover of %d, %d and %d: row %d has nothing that is missing before", k, s, n, i)
			}
			before = missing
		}
	})
	if count < 80 {
		t.Errorf("%d arrays alone", count)
	}
}
