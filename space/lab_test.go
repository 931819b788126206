package space_test

import (
	"math/rand"
	"slices"
	"testing"

	"plexus/api"
	"plexus/field"
)

// sizes are the prime powers from 2 to 64.
var sizes = []int{2, 3, 4, 5, 7, 8, 9, 11, 13, 16, 17, 19, 23, 25, 27, 29, 31, 32, 37, 41, 43, 47, 49, 53, 59, 61, 64}

// maxRows is the greatest number of rows of a matrix.
const maxRows = 64

// lab calculates with vectors in another way than the package: by tables of the
// field, with all vectors of a subspace, or with matrices that it has mixed from
// reduced ones.
type lab struct {
	*testing.T
	f        api.Field
	q        int
	add, mul [][]int
	source   *rand.Rand
}

func newLab(t *testing.T, q int) lab {
	t.Helper()
	f, err := field.Make(q)
	if err != api.OK {
		t.Fatalf("Make(%d): error %d", q, err)
	}
	l := lab{T: t, f: f, q: q, source: rand.New(rand.NewSource(int64(q)))}
	for a := range q {
		l.add, l.mul = append(l.add, make([]int, q)), append(l.mul, make([]int, q))
		for b := range q {
			l.add[a][b], l.mul[a][b] = field.Add(f, a, b), field.Mul(f, a, b)
		}
	}
	return l
}

// forLabs runs a test for each field and each length of vectors.
func forLabs(t *testing.T, test func(l lab, n int)) {
	for _, q := range sizes {
		l := newLab(t, q)
		for n := 1; n <= api.MaxLength; n++ {
			test(l, n)
		}
	}
}

func (l lab) plus(v, w []int) []int {
	sum := slices.Clone(v)
	for i, c := range w {
		sum[i] = l.add[sum[i]][c]
	}
	return sum
}

func (l lab) times(c int, v []int) []int {
	multiple := slices.Clone(v)
	for i, d := range v {
		multiple[i] = l.mul[c][d]
	}
	return multiple
}

// product returns the sums of the products of the coordinates of x and each row.
func (l lab) product(rows [][]int, x []int) []int {
	var sums []int
	for _, row := range rows {
		sum := 0
		for i, c := range row {
			sum = l.add[sum][l.mul[c][x[i]]]
		}
		sums = append(sums, sum)
	}
	return sums
}

// span returns all linear combinations of rows.
func (l lab) span(n int, rows [][]int) [][]int {
	found := [][]int{make([]int, n)}
	for _, row := range rows {
		if slices.ContainsFunc(found, func(v []int) bool { return slices.Equal(v, row) }) {
			continue
		}
		var more [][]int
		for _, v := range found {
			for c := range l.q {
				more = append(more, l.plus(v, l.times(c, row)))
			}
		}
		found = more
	}
	return found
}

// pivot returns the first coordinate at which v is not 0, and -1 for 0.
func pivot(v []int) int { return slices.IndexFunc(v, func(c int) bool { return c != 0 }) }

// pivots returns those of vectors in increasing order.
func pivots(vectors [][]int) []int {
	var found []int
	for _, v := range vectors {
		if p := pivot(v); p >= 0 {
			found = append(found, p)
		}
	}
	slices.Sort(found)
	return slices.Compact(found)
}

// zeroAt reports whether v is 0 at all of the coordinates but one.
func zeroAt(v, coordinates []int, but int) bool {
	return !slices.ContainsFunc(coordinates, func(i int) bool { return i != but && v[i] != 0 })
}

// form returns the reduced matrix of the subspace with these vectors: they are
// all of them.
func (l lab) form(vectors [][]int) [][]int {
	l.Helper()
	places := pivots(vectors)
	var rows [][]int
	for _, p := range places {
		for _, v := range vectors {
			if pivot(v) == p && v[p] == 1 && zeroAt(v, places, p) {
				rows = append(rows, v)
			}
		}
	}
	if len(rows) != len(places) {
		l.Fatalf("%d elements: no subspace: %v", l.q, vectors)
	}
	return rows
}

// isReduced says what a reduced matrix is.
func isReduced(rows [][]int) bool {
	places := pivots(rows)
	if len(places) != len(rows) {
		return false
	}
	for i, row := range rows {
		if pivot(row) != places[i] || row[places[i]] != 1 || !zeroAt(row, places, places[i]) {
			return false
		}
	}
	return true
}

// has reports whether v is in the span of a reduced matrix: its coordinates at
// the pivots say which combination it would be.
func (l lab) has(reduced [][]int, v []int) bool {
	sum := make([]int, len(v))
	for _, row := range reduced {
		sum = l.plus(sum, l.times(v[pivot(row)], row))
	}
	return slices.Equal(sum, v)
}

// drawn returns a vector of length n. Many of its elements are 0.
func (l lab) drawn(n int) []int {
	v := make([]int, n)
	dense := l.source.Intn(4)
	for i := range v {
		if l.source.Intn(4) <= dense {
			v[i] = l.source.Intn(l.q)
		}
	}
	return v
}

func (l lab) matrix(n, rows int) [][]int {
	var m [][]int
	for range rows {
		m = append(m, l.drawn(n))
	}
	return m
}

// from returns a number from low to high.
func (l lab) from(low, high int) int { return low + l.source.Intn(high-low+1) }

// unit returns an element other than 0.
func (l lab) unit() int { return l.from(1, l.q-1) }

// reduced returns a reduced matrix of width n with as many rows as rank.
func (l lab) reduced(n, rank int) [][]int {
	places := l.source.Perm(n)[:rank]
	slices.Sort(places)
	var rows [][]int
	for _, p := range places {
		row := l.drawn(n)
		clear(row[:p])
		for _, other := range places {
			row[other] = 0
		}
		row[p] = 1
		rows = append(rows, row)
	}
	return rows
}

// operate changes the row i: it is exchanged with the row j, or multiplied, or a
// multiple of the row j is added.
func (l lab) operate(m [][]int, i, j int) {
	switch l.source.Intn(4) {
	case 0:
		m[i], m[j] = m[j], m[i]
	case 1:
		m[i] = l.times(l.unit(), m[i])
	default:
		if i != j {
			m[i] = l.plus(m[i], l.times(l.source.Intn(l.q), m[j]))
		}
	}
}

// mixed returns a matrix of width n with the span of rows, and that many rows.
func (l lab) mixed(n int, rows [][]int, many int) [][]int {
	m := slices.Clone(rows)
	for len(m) < many {
		m = append(m, make([]int, n))
	}
	for i := range 4 * many {
		l.operate(m, i%many, l.source.Intn(many))
	}
	return m
}

// check compares a matrix with what it has to be.
func (l lab) check(what string, got, want [][]int, of ...[][]int) {
	l.Helper()
	if !equal(got, want) {
		l.Errorf("%d elements: %s of %v: %v, not %v", l.q, what, of, got, want)
	}
}

func equal(a, b [][]int) bool { return slices.EqualFunc(a, b, slices.Equal[[]int]) }

func cloned(rows [][]int) [][]int {
	var m [][]int
	for _, row := range rows {
		m = append(m, slices.Clone(row))
	}
	return m
}

func identity(n int) [][]int {
	m := make([][]int, n)
	for i := range m {
		m[i] = make([]int, n)
		m[i][i] = 1
	}
	return m
}

// columns returns the matrix whose rows are the columns of m.
func columns(n int, m [][]int) [][]int {
	turned := make([][]int, n)
	for i := range turned {
		for _, row := range m {
			turned[i] = append(turned[i], row[i])
		}
	}
	return turned
}

// all returns all vectors of length n over q elements.
func all(q, n int) [][]int {
	vectors := [][]int{nil}
	for range n {
		var longer [][]int
		for _, v := range vectors {
			for c := range q {
				longer = append(longer, append(slices.Clone(v), c))
			}
		}
		vectors = longer
	}
	return vectors
}

// matrices returns all matrices with so many rows of width n.
func matrices(q, n, rows int) [][][]int {
	var found [][][]int
	for _, v := range all(q, n*rows) {
		found = append(found, slices.Collect(slices.Chunk(v, n)))
	}
	return found
}

// text returns a string that differs for different vectors.
func text(v []int) string {
	var b []byte
	for _, c := range v {
		b = append(b, byte(c))
	}
	return string(b)
}
