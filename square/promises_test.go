package square_test

import (
	"math/rand"
	"slices"
	"testing"

	"plexus/api"
	"plexus/incidence"
	"plexus/square"
)

// P7.2: families.
func TestFamiliesAreOrthogonal(t *testing.T) {
	for _, q := range orders {
		family := familyOf(t, q)
		if len(family) != q-1 {
			t.Errorf("%d squares of order %d", len(family), q)
		}
		for i, a := range family {
			if !square.Valid(a) {
				t.Errorf("square %d of order %d is not valid: %v", i, q, a)
			}
			for j, b := range family {
				if square.Orthogonal(a, b) != (i != j) {
					t.Errorf("squares %d and %d of order %d: %t", i, j, q, i == j)
				}
			}
		}
	}
}

// greatest returns the greatest number of squares among left of which every two
// are orthogonal.
func greatest(orthogonal [][]bool, left []int) int {
	most := 0
	for i, a := range left {
		var fitting []int
		for _, b := range left[i+1:] {
			if orthogonal[a][b] {
				fitting = append(fitting, b)
			}
		}
		most = max(most, 1+greatest(orthogonal, fitting))
	}
	return most
}

// P7.2: there are never n orthogonal squares of order n: all small squares.
func TestNeverTooManyAreOrthogonal(t *testing.T) {
	for n, want := range map[int]int{2: 1, 3: 2, 4: 3} {
		squares := allSquares(n)
		var orthogonal [][]bool
		for _, a := range squares {
			var row []bool
			for _, b := range squares {
				row = append(row, square.Orthogonal(a, b))
			}
			orthogonal = append(orthogonal, row)
		}
		if most := greatest(orthogonal, points(len(squares))); most != want {
			t.Errorf("%d orthogonal squares of order %d, not %d", most, n, want)
		}
	}
}

// P7.2: no square is orthogonal to all of a family.
func TestFamiliesAreWhole(t *testing.T) {
	source := rand.New(rand.NewSource(3))
	for _, q := range orders {
		for range 50 {
			family := turnedFamily(t, source, q)
			for _, l := range [][][]int{sums(q), drawn(source, q), turnedFamily(t, source, q)[0]} {
				if !slices.ContainsFunc(family, func(a [][]int) bool { return !square.Orthogonal(l, a) }) {
					t.Errorf("%v is orthogonal to all of %v", l, family)
				}
			}
		}
	}
}

// P7.3: turned squares and conjugates are valid, and the inverse permutations
// lead back.
func TestTurningBack(t *testing.T) {
	source := rand.New(rand.NewSource(4))
	for _, l := range samples() {
		n := len(l)
		for range 10 {
			rows, cols, symbols := source.Perm(n), source.Perm(n), source.Perm(n)
			turned := mustTurn(t, l, rows, cols, symbols)
			back, err := square.Turn(turned, inverse(rows), inverse(cols), inverse(symbols))
			check(t, "Turn by the inverse permutations", back, err, l)
			if !square.Valid(turned) || !isLatin(turned) {
				t.Errorf("Turn of %v by %v, %v and %v is not valid: %v", l, rows, cols, symbols, turned)
			}
		}
		for k := range 6 {
			conjugate := mustConjugate(t, l, k)
			if !square.Valid(conjugate) || !isLatin(conjugate) {
				t.Errorf("conjugate %d of %v is not valid: %v", k, l, conjugate)
			}
		}
	}
}

// checkTurned fails the test unless a and b are orthogonal after they were turned
// by the same rows and columns exactly if they were before.
func checkTurned(t *testing.T, source *rand.Rand, a, b [][]int) {
	t.Helper()
	n := len(a)
	rows, cols := source.Perm(n), source.Perm(n)
	c, d := mustTurn(t, a, rows, cols, source.Perm(n)), mustTurn(t, b, rows, cols, source.Perm(n))
	if before, after := square.Orthogonal(a, b), square.Orthogonal(c, d); before != after {
		t.Errorf("orthogonal before: %t, after: %t: %v and %v, %v and %v", before, after, a, b, c, d)
	}
}

// P7.3: squares that are turned by the same rows and columns.
func TestTurnedPairs(t *testing.T) {
	source := rand.New(rand.NewSource(5))
	for _, q := range orders {
		family := append(familyOf(t, q), sums(q), drawn(source, q), drawn(source, q))
		for _, a := range family {
			for _, b := range family {
				checkTurned(t, source, a, b)
			}
		}
	}
	for n := 1; n <= 4; n++ {
		squares := allSquares(n)
		for range 2000 {
			checkTurned(t, source, squares[source.Intn(len(squares))], squares[source.Intn(len(squares))])
		}
	}
}

// P7.4.
func TestConjugatesLeadBack(t *testing.T) {
	for _, l := range append(samples(), allSquares(4)...) {
		for k, back := range []int{0, 1, 2, 4, 3, 5} {
			again, err := square.Conjugate(mustConjugate(t, l, k), back)
			check(t, "Conjugate of a conjugate", again, err, l)
		}
	}
}

// P7.4: so it is not with every two of them.
func TestConjugatesDiffer(t *testing.T) {
	l := [][]int{{0, 1, 2, 3, 4}, {1, 0, 3, 4, 2}, {4, 3, 1, 2, 0}, {2, 4, 0, 1, 3}, {3, 2, 4, 0, 1}}
	for k := range 6 {
		for other := range 6 {
			again := mustConjugate(t, mustConjugate(t, l, k), other)
			if sameSquare(again, l) != ([]int{0, 1, 2, 4, 3, 5}[k] == other) {
				t.Errorf("conjugates %d and %d lead to %v", k, other, again)
			}
		}
	}
}

// P7.5: conjugates and turned squares have as many transversals.
func TestTransversalsStay(t *testing.T) {
	source := rand.New(rand.NewSource(6))
	for _, l := range append(samples(), allSquares(4)...) {
		n := len(l)
		if n > 5 {
			continue
		}
		want := mustCount(t, l)
		for k := range 6 {
			if got := mustCount(t, mustConjugate(t, l, k)); got != want {
				t.Errorf("%v has %d transversals, its conjugate %d has %d", l, want, k, got)
			}
		}
		for range 5 {
			turned := mustTurn(t, l, source.Perm(n), source.Perm(n), source.Perm(n))
			if got := mustCount(t, turned); got != want {
				t.Errorf("%v has %d transversals, turned it is %v with %d", l, want, turned, got)
			}
		}
	}
}

// P7.5: a square that has an orthogonal one has at least n transversals.
func TestTransversalsOfOrthogonalSquares(t *testing.T) {
	for n := 1; n <= 4; n++ {
		squares := allSquares(n)
		for _, a := range squares {
			has := slices.ContainsFunc(squares, func(b [][]int) bool { return square.Orthogonal(a, b) })
			if count := mustCount(t, a); has && count < n {
				t.Errorf("%v has only %d transversals", a, count)
			}
		}
	}
	source := rand.New(rand.NewSource(8))
	for range 50 {
		for _, l := range turnedFamily(t, source, 5) {
			if count := mustCount(t, l); count < 5 {
				t.Errorf("%v has only %d transversals", l, count)
			}
		}
	}
}

// P7.5: the cyclic squares of even orders.
func TestCyclicSquaresWithoutTransversals(t *testing.T) {
	for _, n := range []int{2, 4} {
		l, err := square.Cyclic(n)
		if count := mustCount(t, l); count != 0 || err != api.OK {
			t.Errorf("%d transversals of %v, error %d", count, l, err)
		}
	}
}

// checkNet fails the test unless the net of k squares of order n is as it has to
// be.
func checkNet(t *testing.T, n, k int, x api.Inc) {
	t.Helper()
	if !incidence.Valid(x) || x.V != n*n || len(x.B) != n*(k+2) {
		t.Errorf("net of %d squares of order %d: %v", k, n, x)
	}
	for p, degree := range incidence.Degrees(x) {
		if degree != k+2 {
			t.Errorf("net of %d squares of order %d: the point %d is in %d blocks", k, n, p, degree)
		}
	}
	for i, row := range incidence.Meets(x) {
		for j, meet := range row {
			if i == j && meet != n || i != j && meet > 1 {
				t.Errorf("net of %d squares of order %d: %v: %d points are in the blocks %d and %d", k, n, x, meet, i, j)
			}
		}
	}
}

// P7.6.
func TestNets(t *testing.T) {
	source := rand.New(rand.NewSource(9))
	for n := 2; n <= 4; n++ {
		for range 100 {
			family := turnedFamily(t, source, n)
			for k := range n {
				x, err := square.Net(n, family[:k])
				if err != api.OK {
					t.Errorf("Net of %v: error %d", family[:k], err)
				}
				checkNet(t, n, k, x)
			}
		}
		for _, l := range allSquares(n) {
			x, err := square.Net(n, [][][]int{l})
			if err != api.OK {
				t.Errorf("Net of %v: error %d", l, err)
			}
			checkNet(t, n, 1, x)
		}
	}
}
