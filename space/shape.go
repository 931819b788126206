package space

import "plexus/api"

// width returns the length of the first row of all lists, and 0 if they have no
// rows.
func width(lists ...[][]int) int {
	for _, rows := range lists {
		if len(rows) > 0 {
			return len(rows[0])
		}
	}
	return 0
}

// haveWidth reports whether n is a length of vectors, and that of the rows of
// all lists. Whatever else is wrong with them, calculating with them ends and
// stays inside of them.
func haveWidth(n int, lists ...[][]int) bool {
	if n < 1 || n > api.MaxLength {
		return false
	}
	for _, rows := range lists {
		for _, row := range rows {
			if len(row) != n {
				return false
			}
		}
	}
	return true
}

// haveElements reports whether the rows have elements of a field with q elements.
func haveElements(q int, rows [][]int) bool {
	for _, row := range rows {
		for _, c := range row {
			if c < 0 || c >= q {
				return false
			}
		}
	}
	return true
}

func isZero(v []int) bool {
	for _, c := range v {
		if c != 0 {
			return false
		}
	}
	return true
}

// single returns the matrix with the column b alone.
func single(b []int) [][]int {
	var rows [][]int
	for _, c := range b {
		rows = append(rows, []int{c})
	}
	return rows
}

// identity returns the matrix with n rows that changes no vector.
func identity(n int) [][]int {
	var rows [][]int
	for i := range n {
		row := make([]int, n)
		row[i] = 1
		rows = append(rows, row)
	}
	return rows
}
