package array

// completed returns c with levels for all of k columns: one after the other, the
// least level with which most combinations of strength t become occurring that
// are not seen.
func completed(c combination, seen map[combination]bool, k, s, t int) combination {
	for column := range k {
		if c.has(column) {
			continue
		}
		best, most := 0, 0
		for level := range s {
			if n := gained(c, column, level, seen, t); n > most {
				best, most = level, n
			}
		}
		c = c.with(column, best)
	}
	return c
}

// gained returns how many combinations of strength t are not seen that consist
// of this level and t - 1 columns of c.
func gained(c combination, column, level int, seen map[combination]bool, t int) int {
	n := 0
	for others := range choices(c.columns(), t-1) {
		if !seen[c.only(others).with(column, level)] {
			n++
		}
	}
	return n
}
