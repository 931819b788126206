package array

import "plexus/api"

// combination has, for each of its columns, the level there and 1, and 0 for all
// others. So it says by itself which columns it has. Its numbers are small ones
// because it is the key of maps.
type combination [maxColumns]int8

func (c combination) has(column int) bool { return c[column] != 0 }

func (c combination) with(column, level int) combination {
	c[column] = int8(level + 1)
	return c
}

// rowOf returns the combination of all levels of a row.
func rowOf(levels []int) combination {
	var c combination
	for column, level := range levels {
		c = c.with(column, level)
	}
	return c
}

// levels returns the row of a combination of all of k columns.
func (c combination) levels(k int) []int {
	var row []int
	for _, n := range c[:k] {
		row = append(row, int(n-1))
	}
	return row
}

// columns returns the columns of c, in increasing order.
func (c combination) columns() []int {
	var l []int
	for column := range maxColumns {
		if c.has(column) {
			l = append(l, column)
		}
	}
	return l
}

// upTo returns all of k columns.
func upTo(k int) []int {
	var l []int
	for column := range k {
		l = append(l, column)
	}
	return l
}

// only returns the combination of these columns of c.
func (c combination) only(columns []int) combination {
	var part combination
	for _, column := range columns {
		part[column] = c[column]
	}
	return part
}

// choices yields the sets of t of these columns, which are in increasing order,
// as lists: the least one first.
func choices(columns []int, t int) func(yield func(chosen []int) bool) {
	return func(yield func(chosen []int) bool) {
		if t == 0 {
			yield(nil)
			return
		}
		for i, first := range columns {
			for others := range choices(columns[i+1:], t-1) {
				if !yield(append([]int{first}, others...)) {
					return
				}
			}
		}
	}
}

// settings yields the combinations of these columns with s levels: that with the
// least levels first.
func settings(columns []int, s int) func(yield func(c combination) bool) {
	return func(yield func(c combination) bool) {
		if len(columns) == 0 {
			yield(combination{})
			return
		}
		last := len(columns) - 1
		for c := range settings(columns[:last], s) {
			for level := range s {
				if !yield(c.with(columns[last], level)) {
					return
				}
			}
		}
	}
}

// combinations yields all combinations of strength t: those with the least
// columns first.
func combinations(k, s, t int) func(yield func(c combination) bool) {
	return func(yield func(c combination) bool) {
		for columns := range choices(upTo(k), t) {
			for c := range settings(columns, s) {
				if !yield(c) {
					return
				}
			}
		}
	}
}

// occurring returns the combinations of strength t that occur in a, and in how
// many rows.
func occurring(a api.Array, t int) map[combination]int {
	counts := map[combination]int{}
	for columns := range choices(upTo(len(a.R[0])), t) {
		for _, row := range a.R {
			counts[rowOf(row).only(columns)]++
		}
	}
	return counts
}
