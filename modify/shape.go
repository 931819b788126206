package modify

import (
	"plexus/api"
	"plexus/field"
	"plexus/space"
)

// maxField is the greatest number of elements of the field of a code.
const maxField = 16

// fieldOf returns the field of c, and whether c is valid.
func fieldOf(c api.Code) (api.Field, bool) {
	f, err := field.Make(c.Q)
	if err != api.OK || c.Q > maxField || !space.Valid(f, c.N, c.G) {
		return api.Field{}, false
	}
	return f, areEqual(c.G, space.Reduce(f, c.G))
}

// commonField returns the field of a and b, and whether both are valid and have
// the same one.
func commonField(a, b api.Code) (api.Field, bool) {
	f, isFirst := fieldOf(a)
	_, isSecond := fieldOf(b)
	return f, isFirst && isSecond && a.Q == b.Q
}

// canLose reports whether i is a coordinate of c, and not the only one.
func canLose(c api.Code, i int) bool { return i >= 0 && i < c.N && c.N >= 2 }

// isPermutation reports whether g has each number from 0 to n - 1 once.
func isPermutation(g []int, n int) bool {
	isTaken := make([]bool, n)
	for _, j := range g {
		if j < 0 || j >= n || isTaken[j] {
			return false
		}
		isTaken[j] = true
	}
	return len(g) == n
}

// areEqual reports whether two matrices of one width are equal.
func areEqual(a, b [][]int) bool {
	if len(a) != len(b) {
		return false
	}
	for i, row := range a {
		for j, c := range row {
			if c != b[i][j] {
				return false
			}
		}
	}
	return true
}
