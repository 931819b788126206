package geometry

import (
	"plexus/api"
	"plexus/field"
)

// spacePoints returns the points of the projective space of dimension d, if there
// are at most that many.
func spacePoints(f api.Field, d, most int) ([]vector, api.Errno) {
	if !field.Valid(f) || d < 1 || d > maxDimension {
		return nil, api.ErrArg
	}
	q := field.Size(f)
	if size(q, d) > most {
		return nil, api.ErrBig
	}
	var points []vector
	for v := range vectors(q, d+1) {
		if v.isNormalized() {
			points = append(points, v)
		}
	}
	return points, api.OK
}

// size returns the number of points of a space, which has to be known before
// its vectors are walked through: there may be too many of them.
func size(q, d int) int {
	n := 1
	for range d {
		n = n*q + 1
	}
	return n
}

// lines returns the numbers of the points of each line, once.
func lines(f api.Field, points []vector) [][]int {
	index := map[vector]int{}
	for i, p := range points {
		index[p] = i
	}
	var l [][]int
	var isJoined [api.MaxPoints][api.MaxPoints]bool
	for j, b := range points {
		for i, a := range points[:j] {
			if isJoined[i][j] {
				continue
			}
			line := lineThrough(f, index, a, b)
			for _, p := range line {
				for _, r := range line {
					isJoined[p][r] = true
				}
			}
			l = append(l, line)
		}
	}
	return l
}

// lineThrough returns the numbers, by index, of the points of the line through
// the points a and b.
func lineThrough(f api.Field, index map[vector]int, a, b vector) []int {
	var line []int
	for factors := range vectors(field.Size(f), 2) {
		// All multiples of a combination are combinations, too. The one of them
		// that is normalized is found among the points.
		if i, is := index[combination(f, term{factors[0], a}, term{factors[1], b})]; is {
			line = append(line, i)
		}
	}
	return line
}

// hyperplane returns the numbers of the points of the hyperplane of a.
func hyperplane(f api.Field, points []vector, a vector) []int {
	var plane []int
	for i, p := range points {
		if product(f, a, p) == 0 {
			plane = append(plane, i)
		}
	}
	return plane
}
