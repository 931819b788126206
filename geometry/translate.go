package geometry

import "plexus/api"

// isSet reports whether the bits of set are numbers modulo v.
func isSet(v int, set uint64) bool {
	return v >= 2 && v <= api.MaxPoints && set>>v == 0
}

// numbers returns the bits of set.
func numbers(set uint64) []int {
	var l []int
	for i := range api.MaxPoints {
		if set>>i&1 == 1 {
			l = append(l, i)
		}
	}
	return l
}

// translate returns the sums of the numbers of l and i modulo v.
func translate(v int, l []int, i int) []int {
	var sums []int
	for _, x := range l {
		sums = append(sums, (x+i)%v)
	}
	return sums
}

// differences returns how many pairs of numbers of l have each difference modulo
// v.
func differences(v int, l []int) [api.MaxPoints]int {
	var counts [api.MaxPoints]int
	for _, x := range l {
		for _, y := range l {
			counts[(x-y+v)%v]++
		}
	}
	return counts
}
