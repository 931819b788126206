package modify

import (
	"plexus/api"
	"plexus/field"
	"plexus/space"
)

// spanned returns the code of length n over f whose words are the sums of
// multiples of the rows of all lists.
func spanned(f api.Field, n int, lists ...[][]int) api.Code {
	var rows [][]int
	for _, list := range lists {
		rows = append(rows, list...)
	}
	return api.Code{Q: field.Size(f), N: n, G: space.Reduce(f, rows)}
}

// mapped returns what a function makes of each row.
func mapped(rows [][]int, change func(row []int) []int) [][]int {
	var l [][]int
	for _, row := range rows {
		l = append(l, change(row))
	}
	return l
}

func zero(n int) []int { return make([]int, n) }

// joined returns the row that has all parts, one behind the other.
func joined(parts ...[]int) []int {
	var row []int
	for _, part := range parts {
		row = append(row, part...)
	}
	return row
}

// plusTimes returns v + factor w.
func plusTimes(f api.Field, v []int, factor int, w []int) []int {
	sum := joined(v)
	for i, a := range w {
		sum[i] = field.Add(f, v[i], field.Mul(f, factor, a))
	}
	return sum
}

// shortened returns rows for those words in the row space of rows that are 0 at
// the coordinate i, without this coordinate.
func shortened(f api.Field, rows [][]int, i int) [][]int {
	for _, row := range rows {
		if row[i] != 0 {
			rows = mapped(rows, cleared(f, row, i))
			break
		}
	}
	return mapped(rows, without(i))
}

// replaced returns the function that replaces each element of a row over 4
// elements by a word of inner.
func replaced(two api.Field, inner api.Code) func(row []int) []int {
	first, second := inner.G[0], inner.G[1]
	words := [][]int{zero(inner.N), first, second, plusTimes(two, first, 1, second)}
	return func(row []int) []int {
		var w []int
		for _, a := range row {
			w = append(w, words[a]...)
		}
		return w
	}
}

// extended returns the function that puts a coordinate behind a row, for which
// the sum of all coordinates is 0.
func extended(f api.Field) func(row []int) []int {
	return func(row []int) []int {
		sum := 0
		for _, a := range row {
			sum = field.Add(f, sum, a)
		}
		return joined(row, []int{field.Neg(f, sum)})
	}
}

// without returns the function that leaves the coordinate i of a row out.
func without(i int) func(row []int) []int {
	return func(row []int) []int { return joined(row[:i], row[i+1:]) }
}

// cleared returns the function that subtracts from a row the multiple of by that
// makes it 0 at the coordinate i, where by is not 0.
func cleared(f api.Field, by []int, i int) func(row []int) []int {
	// It is not 0, so that there is an inverse.
	inverse, _ := field.Inv(f, by[i])
	return func(row []int) []int {
		return plusTimes(f, row, field.Neg(f, field.Mul(f, row[i], inverse)), by)
	}
}
