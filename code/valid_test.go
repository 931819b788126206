package code_test

import (
	"slices"
	"testing"

	"plexus/api"
	"plexus/code"
)

// isReduced says what rows in reduced echelon form are.
func isReduced(rows [][]int) bool {
	var places []int
	for _, row := range rows {
		places = append(places, pivot(row))
	}
	if slices.Contains(places, -1) {
		return false
	}
	for i, row := range rows {
		if i > 0 && places[i] <= places[i-1] || row[places[i]] != 1 || !zeroAt(row, places, places[i]) {
			return false
		}
	}
	return true
}

// P13.1: Valid, for all lists of rows that are small.
func TestValidByHand(t *testing.T) {
	valid := 0
	forSmall(t, func(l lab, n int, rows [][]int) {
		is := isReduced(rows)
		if is {
			valid++
		}
		if c := (api.Code{Q: l.q, N: n, G: rows}); code.Valid(c) != is {
			l.Errorf("%v is valid: %t", c, code.Valid(c))
		}
	})
	// There is one for each row space with at most so many rows: over 2, 3, 4 and
	// 5 elements, and over 7, 8, 9 and 16 ones with one row.
	if want := (2 + 5 + 16 + 51) + (2 + 6 + 27) + (2 + 7) + 8 + (2 + 10 + 11 + 18); valid != want {
		t.Errorf("%d codes are valid, not %d", valid, want)
	}
}

// P13.1: Valid, after each change of one element of the rows of each length.
func TestChangedElements(t *testing.T) {
	forFew(t, 64, func(l lab, c api.Code, _ int) {
		for i, row := range c.G {
			for j := range row {
				for _, a := range []int{-1, 0, 1, l.q - 1, l.q, row[j] + 16, row[j] - 256} {
					changed := cloned(c.G)
					changed[i][j] = a
					want := a >= 0 && a < l.q && isReduced(changed)
					if d := (api.Code{Q: c.Q, N: c.N, G: changed}); code.Valid(d) != want {
						l.Errorf("%v is valid: %t", d, code.Valid(d))
					}
				}
			}
		}
	})
}

// P13.1: Valid, after each change of rows.
func TestChangedRows(t *testing.T) {
	forCodes(t, func(l lab, c api.Code, _ int) {
		refuse := func(rows [][]int) {
			l.Helper()
			if d := (api.Code{Q: c.Q, N: c.N, G: rows}); code.Valid(d) {
				l.Errorf("valid: %v", d)
			}
		}
		for i, row := range c.G {
			refuse(slices.Insert(cloned(c.G), i, row))
			refuse(slices.Insert(cloned(c.G), i, make([]int, c.N)))
			refuse(slices.Replace(cloned(c.G), i, i+1, make([]int, c.N)))
			refuse(slices.Replace(cloned(c.G), i, i+1, row[1:]))
			refuse(slices.Replace(cloned(c.G), i, i+1, append(slices.Clone(row), 0)))
			if rest := slices.Delete(cloned(c.G), i, i+1); !code.Valid(api.Code{Q: c.Q, N: c.N, G: rest}) {
				l.Errorf("not valid: %v", rest)
			}
			if l.q > 2 {
				refuse(slices.Replace(cloned(c.G), i, i+1, l.times(l.from(2, l.q-1), row)))
			}
			if i > 0 {
				refuse(slices.Replace(cloned(c.G), i-1, i+1, row, c.G[i-1]))
				refuse(slices.Replace(cloned(c.G), i-1, i, l.plus(c.G[i-1], row)))
				refuse(slices.Replace(cloned(c.G), i, i+1, l.plus(c.G[i-1], row)))
			}
		}
		refuse(append(cloned(c.G), make([]int, c.N)))
		refuse(append(cloned(c.G), nil))
	})
}

// P13.1: Valid says nothing of the number of words, and accepts rows with room
// behind them.
func TestLargestCodes(t *testing.T) {
	for _, q := range sizes {
		rows := identity(24)
		for i, row := range rows {
			rows[i] = append(row, 77)[:24]
		}
		c := api.Code{Q: q, N: 24, G: rows}
		if !code.Valid(c) || code.Dim(c) != 24 || code.Count(c) != 4097 {
			t.Errorf("all words over %d elements: dimension %d, %d words", q, code.Dim(c), code.Count(c))
		}
		if dual := code.Dual(c); !same(dual, api.Code{Q: q, N: 24}) {
			t.Errorf("dual of all words over %d elements: %v", q, dual)
		}
	}
}
