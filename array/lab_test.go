package array_test

import (
	"math"
	"math/bits"
	"math/rand"
	"slices"
	"testing"

	"plexus/api"
	"plexus/array"
	"plexus/field"
	"plexus/square"
)

// extremes are numbers at and beyond limits.
var extremes = []int{math.MinInt, math.MinInt + 1, -64, -1, 0, 1, 2, 3, 4, 7, 8, 9, 63, 64, 65, 1 << 32, 1<<32 + 2, math.MaxInt}

// arr returns an array whose rows are written in digits.
func arr(s int, rows ...string) api.Array {
	a := api.Array{S: s}
	for _, digits := range rows {
		var row []int
		for _, d := range digits {
			row = append(row, int(d-'0'))
		}
		a.R = append(a.R, row)
	}
	return a
}

// words returns the lists of n numbers less than s, in order.
func words(s, n int) [][]int {
	l := [][]int{{}}
	for range n {
		var longer [][]int
		for _, w := range l {
			for i := range s {
				longer = append(longer, append(slices.Clone(w), i))
			}
		}
		l = longer
	}
	return l
}

func upTo(n int) []int {
	l := make([]int, n)
	for i := range l {
		l[i] = i
	}
	return l
}

// powerByHand returns s, n times multiplied.
func powerByHand(s, n int) int { return int(math.Pow(float64(s), float64(n))) }

// picked returns the elements of l at these places.
func picked[T any](l []T, places []int) []T {
	var p []T
	for _, i := range places {
		p = append(p, l[i])
	}
	return p
}

// subsets returns the sets of t of the numbers less than k, in any order.
func subsets(k, t int) [][]int {
	var l [][]int
	for set := range uint(1) << k {
		if bits.OnesCount(set) == t {
			l = append(l, slices.DeleteFunc(upTo(k), func(i int) bool { return set>>i&1 == 0 }))
		}
	}
	return l
}

// tally is what there is of combinations of a strength in the sets of columns.
type tally struct {
	missing, index int
	isOrthogonal   bool
}

// tallyByHand looks for runs of equal levels in the sorted rows of each set of
// columns.
func tallyByHand(a api.Array, t int) tally {
	total := powerByHand(a.S, t)
	found := tally{index: len(a.R) / total, isOrthogonal: len(a.R)%total == 0}
	for _, columns := range subsets(len(a.R[0]), t) {
		var parts [][]int
		for _, row := range a.R {
			parts = append(parts, picked(row, columns))
		}
		slices.SortFunc(parts, slices.Compare[[]int])
		found.missing += total
		for len(parts) > 0 {
			run := slices.IndexFunc(parts, func(p []int) bool { return !slices.Equal(p, parts[0]) })
			if run < 0 {
				run = len(parts)
			}
			found.missing--
			found.isOrthogonal = found.isOrthogonal && run == found.index
			parts = parts[run:]
		}
	}
	if !found.isOrthogonal {
		found.index = 0
	}
	return found
}

// isValidByHand says whether a is valid.
func isValidByHand(a api.Array) bool {
	if a.S < 2 || a.S > 8 || len(a.R) == 0 || len(a.R) > 64 {
		return false
	}
	k := len(a.R[0])
	return k > 0 && k < 9 && !slices.ContainsFunc(a.R, func(row []int) bool {
		return len(row) != k || slices.Min(row) < 0 || slices.Max(row) >= a.S
	})
}

// orthogonal is an array that is orthogonal of a strength, and not of the next
// one, if it has so many columns.
type orthogonal struct {
	a        api.Array
	strength int
}

// full returns the array whose rows are all words.
func full(s, k int) orthogonal { return orthogonal{api.Array{S: s, R: words(s, k)}, k} }

// withSum returns the array of all words, with a last column that makes their
// sums 0.
func withSum(s, k int) orthogonal {
	a := api.Array{S: s}
	for _, w := range words(s, k) {
		sum := 0
		for _, n := range w {
			sum += n
		}
		a.R = append(a.R, append(w, (s-sum%s)%s))
	}
	return orthogonal{a, k}
}

// values returns the array of the values of all polynomials with t coefficients
// at all elements of the field with q elements, and of their last coefficients.
func values(f api.Field, q, t int) orthogonal {
	a := api.Array{S: q}
	for _, p := range words(q, t) {
		var row []int
		for x := range min(q, 7) {
			value := 0
			for _, c := range slices.Backward(p) {
				value = field.Add(f, field.Mul(f, value, x), c)
			}
			row = append(row, value)
		}
		a.R = append(a.R, append(row, p[t-1]))
	}
	return orthogonal{a, t}
}

// sums returns the array whose rows are all words of bits, and whose columns are
// the sums of those of their bits that a set has.
func sums(bitsOfWords int, sets ...int) api.Array {
	a := api.Array{S: 2}
	for w := range 1 << bitsOfWords {
		var row []int
		for _, set := range sets {
			row = append(row, bits.OnesCount(uint(w&set))%2)
		}
		a.R = append(a.R, row)
	}
	return a
}

// repeated returns the array with all rows of a, n times.
func repeated(a api.Array, n int) api.Array {
	return api.Array{S: a.S, R: slices.Repeat(a.R, n)}
}

// known returns arrays of which the strength is known.
func known(t *testing.T) []orthogonal {
	var l []orthogonal
	for s := 2; s <= 8; s++ {
		for k := 1; k <= 7 && powerByHand(s, k) <= 64; k++ {
			l = append(l, full(s, k))
			l = append(l, withSum(s, k))
		}
	}
	for _, q := range []int{2, 3, 4, 5, 7, 8} {
		f := mustField(t, q)
		for n := 2; n <= q && powerByHand(q, n) <= 64; n++ {
			l = append(l, values(f, q, n))
		}
	}
	l = append(l,
		orthogonal{sums(2, 1, 2, 3), 2},
		orthogonal{sums(3, 1, 2, 3, 4, 5, 6, 7), 2},
		orthogonal{sums(4, 8, 9, 10, 11, 12, 13, 14, 15), 3},
		orthogonal{sums(4, 1, 2, 4, 8, 15), 4},
		orthogonal{sums(5, 1, 2, 4, 8, 16, 31), 5},
		orthogonal{sums(6, 1, 2, 4, 8, 16, 32, 15, 51), 4},
		orthogonal{sums(6, 1, 2, 4, 8, 16, 32, 63, 3), 2},
		orthogonal{sums(6, 1, 1, 1, 1, 1, 1, 1, 1), 1},
		orthogonal{sums(6, 1, 2, 4, 8, 16, 32, 63, 0), 0},
		orthogonal{sums(3, 0), 0},
	)
	for _, o := range slices.Clone(l) {
		for n := 2; n*len(o.a.R) <= 64; n = 3 * n / 2 {
			l = append(l, orthogonal{repeated(o.a, n), o.strength})
		}
	}
	return l
}

// small returns all arrays with few levels, columns and rows.
func small() []api.Array {
	var l []api.Array
	for _, shape := range [][3]int{{2, 1, 6}, {2, 2, 4}, {2, 3, 4}, {3, 1, 6}, {3, 2, 3}, {4, 1, 4}, {8, 1, 2}} {
		s, k := shape[0], shape[1]
		rows := words(s, k)
		for n := 1; n <= shape[2]; n++ {
			for _, w := range words(len(rows), n) {
				l = append(l, api.Array{S: s, R: picked(rows, w)})
			}
		}
	}
	return l
}

// drawn returns an array of any elements.
func drawn(source *rand.Rand, s, k, n int) api.Array {
	a := api.Array{S: s}
	for range n {
		var row []int
		for range k {
			row = append(row, source.Intn(s))
		}
		a.R = append(a.R, row)
	}
	return a
}

// changed returns a with another element.
func changed(source *rand.Rand, a api.Array) api.Array {
	b := clone(a)
	row, column := source.Intn(len(a.R)), source.Intn(len(a.R[0]))
	b.R[row][column] = (a.R[row][column] + 1 + source.Intn(a.S-1)) % a.S
	return b
}

// samples returns arrays of all levels and numbers of columns, the same ones in
// each run.
func samples(t *testing.T) []api.Array {
	source := rand.New(rand.NewSource(11))
	var l []api.Array
	for _, o := range known(t) {
		l = append(l, o.a, changed(source, o.a))
	}
	for s := 2; s <= 8; s++ {
		for k := 1; k <= 8; k++ {
			for _, n := range []int{1, 2 + source.Intn(10), 12 + source.Intn(50), 64} {
				l = append(l, drawn(source, s, k, n))
			}
		}
	}
	return l
}

func mustField(t *testing.T, q int) api.Field {
	t.Helper()
	f, err := field.Make(q)
	if err != api.OK {
		t.Fatalf("no field with %d elements: error %d", q, err)
	}
	return f
}

// turned returns l with other rows, columns and symbols.
func turned(t *testing.T, l [][]int, rows, columns, symbols []int) [][]int {
	t.Helper()
	m, err := square.Turn(l, rows, columns, symbols)
	if err != api.OK {
		t.Fatalf("Turn of %v: error %d", l, err)
	}
	return m
}

// cyclic returns the square of the sums of order n.
func cyclic(t *testing.T, n int) [][]int {
	t.Helper()
	l, err := square.Cyclic(n)
	if err != api.OK {
		t.Fatalf("no square of order %d: error %d", n, err)
	}
	return l
}

// family returns n - 1 orthogonal squares if there is a field with n elements,
// and otherwise the one of sums.
func family(t *testing.T, n int) [][][]int {
	t.Helper()
	f, err := field.Make(n)
	if err != api.OK {
		return [][][]int{cyclic(t, n)}
	}
	l, err := square.Family(f)
	if err != api.OK {
		t.Fatalf("no family of order %d: error %d", n, err)
	}
	return l
}

func clone(a api.Array) api.Array { return api.Array{S: a.S, R: cloneRows(a.R)} }

func cloneRows(l [][]int) [][]int {
	var rows [][]int
	for _, row := range l {
		rows = append(rows, slices.Clone(row))
	}
	return rows
}

func sameRows(a, b [][]int) bool { return slices.EqualFunc(a, b, slices.Equal[[]int]) }

func same(a, b api.Array) bool { return a.S == b.S && sameRows(a.R, b.R) }

// check fails the test unless an array is want, without an error.
func check(t *testing.T, what string, got api.Array, err api.Errno, want api.Array) {
	t.Helper()
	if !same(got, want) || err != api.OK {
		t.Errorf("%s: %v, error %d, not %v", what, got, err, want)
	}
}

// checkRefused fails the test unless there is no array, and the error is want.
func checkRefused(t *testing.T, what string, got api.Array, err, want api.Errno) {
	t.Helper()
	if !same(got, api.Array{}) || err != want {
		t.Errorf("%s: %v, error %d, not %d", what, got, err, want)
	}
}

// must returns a function that returns an array, and fails the test if there is
// an error.
func must(t *testing.T) func(a api.Array, err api.Errno) api.Array {
	return func(a api.Array, err api.Errno) api.Array {
		t.Helper()
		if err != api.OK {
			t.Fatalf("error %d", err)
		}
		return a
	}
}

// covers runs a test for all arrays that Cover returns.
func covers(test func(k, s, t int, a api.Array)) {
	for k := 1; k <= 8; k++ {
		for s := 2; s <= 8; s++ {
			for t := 1; t <= min(k, 3); t++ {
				if a, err := array.Cover(k, s, t); err == api.OK {
					test(k, s, t, a)
				}
			}
		}
	}
}
