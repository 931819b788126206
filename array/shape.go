package array

import "plexus/api"

// isLevels reports whether a valid array can have s levels.
func isLevels(s int) bool { return s >= minLevels && s <= maxLevels }

// isColumns reports whether a valid array can have k columns.
func isColumns(k int) bool { return k >= 1 && k <= maxColumns }

// areBelow reports whether all numbers of l are from 0 to n - 1.
func areBelow(l []int, n int) bool {
	for _, i := range l {
		if i < 0 || i >= n {
			return false
		}
	}
	return true
}

// hasStrength reports whether a is valid, and has combinations of strength t.
func hasStrength(a api.Array, t int) bool { return Valid(a) && t >= 1 && t <= len(a.R[0]) }

// isLatin reports whether l is a Latin square of order n, at most maxLevels.
func isLatin(n int, l [][]int) bool {
	if len(l) != n {
		return false
	}
	var inRow, inColumn [maxLevels][maxLevels]bool
	for i, row := range l {
		if len(row) != n || !areBelow(row, n) {
			return false
		}
		for j, s := range row {
			if inRow[i][s] || inColumn[j][s] {
				return false
			}
			inRow[i][s], inColumn[j][s] = true, true
		}
	}
	return true
}

// choose returns the number of sets of t of k columns.
func choose(k, t int) int {
	n := 1
	for i := range t {
		// This is an integer each time: a number of sets, too.
		n = n * (k - i) / (i + 1)
	}
	return n
}

func power(base, exponent int) int {
	n := 1
	for range exponent {
		n *= base
	}
	return n
}
