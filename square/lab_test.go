package square_test

import (
	"math/rand"
	"slices"
	"testing"

	"plexus/api"
	"plexus/field"
	"plexus/square"
)

// points returns 0 to n - 1.
func points(n int) []int {
	l := make([]int, n)
	for i := range l {
		l[i] = i
	}
	return l
}

// allPermutations returns the permutations of 0 to n - 1, in order.
func allPermutations(n int) [][]int {
	l := [][]int{{}}
	for range n {
		var longer [][]int
		for _, g := range l {
			for i := range n {
				if !slices.Contains(g, i) {
					longer = append(longer, append(slices.Clone(g), i))
				}
			}
		}
		l = longer
	}
	return l
}

func inverse(g []int) []int {
	h := make([]int, len(g))
	for i, j := range g {
		h[j] = i
	}
	return h
}

// columnOf returns a column of l.
func columnOf(l [][]int, j int) []int {
	var c []int
	for _, row := range l {
		c = append(c, row[j])
	}
	return c
}

// isLatin says of n rows of n symbols whether they are a square: each row and
// each column, sorted, is 0 to n - 1.
func isLatin(l [][]int) bool {
	for i := range l {
		for _, line := range [][]int{slices.Clone(l[i]), columnOf(l, i)} {
			slices.Sort(line)
			if !slices.Equal(line, points(len(l))) {
				return false
			}
		}
	}
	return true
}

// fitting returns the permutations that can be the next row of l.
func fitting(l, permutations [][]int) [][]int {
	var next [][]int
	for _, g := range permutations {
		fits := true
		for _, row := range l {
			for j, s := range row {
				fits = fits && g[j] != s
			}
		}
		if fits {
			next = append(next, g)
		}
	}
	return next
}

// allSquares returns all squares of order n.
func allSquares(n int) [][][]int {
	permutations := allPermutations(n)
	l := [][][]int{nil}
	for range n {
		var longer [][][]int
		for _, rows := range l {
			for _, g := range fitting(rows, permutations) {
				longer = append(longer, append(slices.Clone(rows), slices.Clone(g)))
			}
		}
		l = longer
	}
	return cloned(l)
}

// drawn returns a square of order n: rows are drawn one after the other, which
// never comes to an end too early.
func drawn(source *rand.Rand, n int) [][]int {
	var l [][]int
	for range n {
		l = append(l, drawnRow(source, l, n, nil))
	}
	return l
}

// drawnRow returns a row that begins with row and can follow those of l, and nil
// if there is none.
func drawnRow(source *rand.Rand, l [][]int, n int, row []int) []int {
	if len(row) == n {
		return row
	}
	above := columnOf(l, len(row))
	for _, s := range source.Perm(n) {
		if slices.Contains(row, s) || slices.Contains(above, s) {
			continue
		}
		if whole := drawnRow(source, l, n, append(slices.Clone(row), s)); whole != nil {
			return whole
		}
	}
	return nil
}

// orders are those of a family.
var orders = []int{2, 3, 4, 5, 7, 8, 9}

func mustField(t *testing.T, q int) api.Field {
	t.Helper()
	f, err := field.Make(q)
	if err != api.OK {
		t.Fatalf("no field with %d elements: error %d", q, err)
	}
	return f
}

// familyOf returns the family of the field with q elements.
func familyOf(t *testing.T, q int) [][][]int {
	t.Helper()
	l, err := square.Family(mustField(t, q))
	if err != api.OK {
		t.Fatalf("no family of order %d: error %d", q, err)
	}
	return l
}

// samples returns all squares up to the order 3, and others of all orders, the
// same ones in each run.
func samples() [][][]int {
	l := slices.Concat(allSquares(1), allSquares(2), allSquares(3))
	source := rand.New(rand.NewSource(7))
	for n := 4; n <= 9; n++ {
		l = append(l, sums(n))
		for range 12 {
			l = append(l, drawn(source, n))
		}
	}
	return l
}

// sums returns the cyclic square: each row is the one above it, moved by one.
func sums(n int) [][]int {
	l := [][]int{points(n)}
	for i := 1; i < n; i++ {
		l = append(l, append(slices.Clone(l[i-1][1:]), l[i-1][0]))
	}
	return l
}

// conjugateByHand finds each symbol of a conjugate in l.
func conjugateByHand(l [][]int, k int) [][]int {
	var square [][]int
	for a := range l {
		var row []int
		for b := range l {
			row = append(row, [...]int{
				l[a][b],
				slices.Index(l[a], b),
				l[b][a],
				slices.Index(columnOf(l, a), b),
				slices.Index(l[b], a),
				slices.Index(columnOf(l, b), a),
			}[k])
		}
		square = append(square, row)
	}
	return square
}

// areOrthogonal says of two squares of one order whether they are orthogonal:
// the pairs of symbols, sorted, are all there are.
func areOrthogonal(a, b [][]int) bool {
	var pairs []int
	for i, row := range a {
		for j, s := range row {
			pairs = append(pairs, s*len(a)+b[i][j])
		}
	}
	slices.Sort(pairs)
	return slices.Equal(pairs, points(len(a)*len(a)))
}

// transversalsByHand counts those permutations whose places have different
// symbols.
func transversalsByHand(l [][]int) int {
	n := 0
	for _, g := range allPermutations(len(l)) {
		var symbols []int
		for i, j := range g {
			symbols = append(symbols, l[i][j])
		}
		slices.Sort(symbols)
		if slices.Equal(symbols, points(len(l))) {
			n++
		}
	}
	return n
}

// netByHand returns the net of squares of order n.
func netByHand(n int, l [][][]int) api.Inc {
	x := api.Inc{V: n * n}
	for c := range n {
		var rows, columns uint64
		for i := range n {
			rows += 1 << (c*n + i)
			columns += 1 << (i*n + c)
		}
		x.B = append(x.B, rows, columns)
		for _, square := range l {
			var places uint64
			for p := range n * n {
				if square[p/n][p%n] == c {
					places += 1 << p
				}
			}
			x.B = append(x.B, places)
		}
	}
	slices.Sort(x.B)
	return x
}

func sameSquare(a, b [][]int) bool { return slices.EqualFunc(a, b, slices.Equal[[]int]) }

func sameSquares(a, b [][][]int) bool { return slices.EqualFunc(a, b, sameSquare) }

func sameStructure(x, y api.Inc) bool { return x.V == y.V && slices.Equal(x.B, y.B) }

func clone(l [][]int) [][]int {
	var copied [][]int
	for _, row := range l {
		copied = append(copied, slices.Clone(row))
	}
	return copied
}

func cloned(l [][][]int) [][][]int {
	var copied [][][]int
	for _, square := range l {
		copied = append(copied, clone(square))
	}
	return copied
}

// check fails the test unless a square is want, without an error.
func check(t *testing.T, what string, got [][]int, err api.Errno, want [][]int) {
	t.Helper()
	if !sameSquare(got, want) || err != api.OK {
		t.Errorf("%s: %v, error %d, not %v", what, got, err, want)
	}
}

// checkRefused fails the test unless there is no square, and the error is want.
func checkRefused(t *testing.T, what string, got [][]int, err, want api.Errno) {
	t.Helper()
	if len(got) != 0 || err != want {
		t.Errorf("%s: %v, error %d, not %d", what, got, err, want)
	}
}

// mustTurn returns a turned square.
func mustTurn(t *testing.T, l [][]int, rows, cols, symbols []int) [][]int {
	t.Helper()
	turned, err := square.Turn(l, rows, cols, symbols)
	if err != api.OK {
		t.Fatalf("Turn of %v by %v, %v and %v: error %d", l, rows, cols, symbols, err)
	}
	return turned
}

// mustConjugate returns a conjugate.
func mustConjugate(t *testing.T, l [][]int, k int) [][]int {
	t.Helper()
	conjugate, err := square.Conjugate(l, k)
	if err != api.OK {
		t.Fatalf("Conjugate %d of %v: error %d", k, l, err)
	}
	return conjugate
}

// mustCount returns the number of transversals.
func mustCount(t *testing.T, l [][]int) int {
	t.Helper()
	n, err := square.Transversals(l)
	if err != api.OK {
		t.Fatalf("Transversals of %v: error %d", l, err)
	}
	return n
}
