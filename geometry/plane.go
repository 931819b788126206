package geometry

import (
	"plexus/api"
	"plexus/field"
)

// upright returns the numbers of the points of the affine plane with x = c.
func upright(q, c int) []int {
	var line []int
	for y := range q {
		line = append(line, c*q+y)
	}
	return line
}

// sloping returns the numbers of the points of the affine plane with y = m x + c.
func sloping(f api.Field, m, c int) []int {
	var line []int
	q := field.Size(f)
	for x := range q {
		line = append(line, x*q+field.Add(f, field.Mul(f, m, x), c))
	}
	return line
}
