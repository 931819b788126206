package space

import (
	"plexus/api"
	"plexus/field"
)

// matrix is a matrix at work over the field that it embeds. Its rows have
// memory of their own, since its methods change them.
type matrix struct {
	api.Field
	width int
	rows  [][]int
}

// over returns the matrix with the rows of all lists, which have the width n.
func over(f api.Field, n int, lists ...[][]int) matrix {
	m := matrix{Field: f, width: n}
	for _, rows := range lists {
		for _, row := range rows {
			line := make([]int, n)
			copy(line, row)
			m.rows = append(m.rows, line)
		}
	}
	return m
}

// beside returns the matrix whose rows are those of a, each with the row of b
// behind. Both have as many rows, and at least one if they have any use.
func beside(f api.Field, a, b [][]int) matrix {
	m := matrix{Field: f, width: width(a) + width(b)}
	for i, row := range a {
		line := make([]int, m.width)
		copy(line, row)
		copy(line[len(row):], b[i])
		m.rows = append(m.rows, line)
	}
	return m
}

// sweep reduces the first columns of m, and returns their pivots. The row of
// each pivot comes at its place among them; the rows behind are 0 in these
// columns.
func (m matrix) sweep(columns int) []int {
	var pivots []int
	for column := range columns {
		at := len(pivots)
		if m.raise(at, column) {
			m.isolate(at, column)
			pivots = append(pivots, column)
		}
	}
	return pivots
}

// raise puts the first row from at on that is not 0 in the column at this place.
// It reports whether there is one.
func (m matrix) raise(at, column int) bool {
	for i := at; i < len(m.rows); i++ {
		if m.rows[i][column] != 0 {
			m.rows[at], m.rows[i] = m.rows[i], m.rows[at]
			return true
		}
	}
	return false
}

// isolate makes the column 1 in the row at, where it is not 0, and 0 elsewhere.
func (m matrix) isolate(at, column int) {
	row := m.rows[at]
	// It is not 0, so that there is an inverse.
	inverse, _ := field.Inv(m.Field, row[column])
	for j, c := range row {
		row[j] = field.Mul(m.Field, c, inverse)
	}
	for i, other := range m.rows {
		if i != at {
			m.subtract(other, other[column], row)
		}
	}
}

// subtract subtracts factor times row from v.
func (m matrix) subtract(v []int, factor int, row []int) {
	if factor == 0 {
		return
	}
	for j, c := range row {
		// Most of the time goes into products, and many elements are 0.
		if c != 0 {
			v[j] = field.Sub(m.Field, v[j], field.Mul(m.Field, factor, c))
		}
	}
}

// reduced returns the reduced matrix with the span of m, and its pivots. It
// uses the rows of m up.
func (m matrix) reduced() (matrix, []int) {
	pivots := m.sweep(m.width)
	m.rows = m.rows[:len(pivots)]
	return m, pivots
}

// kernel returns the reduced matrix of what m takes to zero. It uses the rows of
// m up.
func (m matrix) kernel() matrix {
	r, pivots := m.reduced()
	isPivot := make([]bool, m.width)
	for _, pivot := range pivots {
		isPivot[pivot] = true
	}
	k := over(m.Field, m.width)
	for j := range m.width {
		if isPivot[j] {
			continue
		}
		// A vector can be chosen freely where there are no pivots; then each row
		// says what it is at the pivot.
		x := make([]int, m.width)
		x[j] = 1
		for i, row := range r.rows {
			x[pivots[i]] = field.Neg(m.Field, row[j])
		}
		k.rows = append(k.rows, x)
	}
	k, _ = k.reduced()
	return k
}
