package code

// pivot returns the place of the first element of w other than 0, and the
// length of w if there is none.
func pivot(w []int) int {
	at := 0
	for at < len(w) && w[at] == 0 {
		at++
	}
	return at
}

// weight returns the number of elements of w other than 0.
func weight(w []int) int {
	n := 0
	for _, a := range w {
		if a != 0 {
			n++
		}
	}
	return n
}

// areReduced reports whether rows of one length are in reduced echelon form.
func areReduced(rows [][]int) bool {
	last := -1
	for i, row := range rows {
		at := pivot(row)
		if at <= last || at == len(row) || row[at] != 1 || !areZero(rows[:i], at) {
			return false
		}
		last = at
	}
	return true
}

// areZero reports whether all rows are 0 at a place. The rows behind need no
// look: they are 0 at all places before their pivots.
func areZero(rows [][]int, at int) bool {
	for _, row := range rows {
		if row[at] != 0 {
			return false
		}
	}
	return true
}
