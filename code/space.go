package code

import (
	"plexus/api"
	"plexus/field"
)

// maxField is the greatest number of elements of the field of a code.
const maxField = 16

// space is the space of all words of one length over the field that it embeds.
// Its methods calculate with words, and do not change them.
type space struct {
	api.Field
	length int
}

// hasElements reports whether l has elements of the field alone.
func (s space) hasElements(l []int) bool {
	q := field.Size(s.Field)
	for _, a := range l {
		if a < 0 || a >= q {
			return false
		}
	}
	return true
}

// has reports whether w is a word of s.
func (s space) has(w []int) bool { return len(w) == s.length && s.hasElements(w) }

// hasAll reports whether all rows are words of s.
func (s space) hasAll(rows [][]int) bool {
	for _, row := range rows {
		if !s.has(row) {
			return false
		}
	}
	return true
}

func (s space) zero() []int { return make([]int, s.length) }

// plus returns v + w.
func (s space) plus(v, w []int) []int {
	sum := s.zero()
	copy(sum, v)
	for i, a := range w {
		// Most of the time goes into sums and products of elements, of which
		// many are 0 in rows that are reduced.
		if a != 0 {
			sum[i] = field.Add(s.Field, v[i], a)
		}
	}
	return sum
}

// times returns w multiplied by a factor.
func (s space) times(factor int, w []int) []int {
	multiple := s.zero()
	for i, a := range w {
		if factor != 0 && a != 0 {
			multiple[i] = field.Mul(s.Field, factor, a)
		}
	}
	return multiple
}

// multiples returns w multiplied by all elements of the field, in order.
func (s space) multiples(w []int) [][]int {
	var l [][]int
	for factor := range field.Size(s.Field) {
		l = append(l, s.times(factor, w))
	}
	return l
}

// product returns the product of two words.
func (s space) product(v, w []int) int {
	sum := 0
	for i, a := range v {
		sum = field.Add(s.Field, sum, field.Mul(s.Field, a, w[i]))
	}
	return sum
}

// cleared returns w less the multiple of row, whose pivot is 1, that makes it 0
// at this pivot.
func (s space) cleared(w, row []int) []int {
	factor := field.Neg(s.Field, w[pivot(row)])
	return s.plus(w, s.times(factor, row))
}

// rest returns w after it is cleared by all rows, which are 0 at the pivots of
// each other. It is 0 exactly if w is in their row space.
func (s space) rest(w []int, rows [][]int) []int {
	for _, row := range rows {
		w = s.cleared(w, row)
	}
	return w
}

// reduced returns the rows in reduced echelon form that have the row space of
// rows.
func (s space) reduced(rows [][]int) [][]int {
	var found [][]int
	for _, row := range rows {
		rest := s.rest(row, found)
		at := pivot(rest)
		if at == s.length {
			continue
		}
		// It is not 0 at its pivot, so that there is an inverse.
		inverse, _ := field.Inv(s.Field, rest[at])
		further := s.times(inverse, rest)
		for i, other := range found {
			found[i] = s.cleared(other, further)
		}
		found = append(found, further)
	}
	return s.inOrder(found)
}

// inOrder returns rows with different pivots in the order of these.
func (s space) inOrder(rows [][]int) [][]int {
	var l [][]int
	for at := range s.length {
		for _, row := range rows {
			if pivot(row) == at {
				l = append(l, row)
			}
		}
	}
	return l
}

// orthogonal returns rows whose row space is all words whose products with rows
// in reduced echelon form are 0.
func (s space) orthogonal(rows [][]int) [][]int {
	isPivot := make([]bool, s.length)
	for _, row := range rows {
		isPivot[pivot(row)] = true
	}
	var l [][]int
	for j := range s.length {
		if isPivot[j] {
			continue
		}
		// A word can be chosen freely where there are no pivots; then each row
		// says what it is at the pivot.
		w := s.zero()
		w[j] = 1
		for _, row := range rows {
			w[pivot(row)] = field.Neg(s.Field, row[j])
		}
		l = append(l, w)
	}
	return l
}

// words yields all sums of multiples of rows, in the order of their messages.
// Each of them has memory of its own.
func (s space) words(rows [][]int) func(yield func(w []int) bool) {
	return func(yield func(w []int) bool) {
		last := len(rows) - 1
		if last < 0 {
			yield(s.zero())
			return
		}
		multiples := s.multiples(rows[last])
		for w := range s.words(rows[:last]) {
			for _, multiple := range multiples {
				if !yield(s.plus(w, multiple)) {
					return
				}
			}
		}
	}
}
