package array_test

import (
	"slices"
	"testing"

	"plexus/api"
	"plexus/array"
)

// part is a combination.
type part struct{ columns, levels []int }

func (p part) isIn(row []int) bool {
	for i, c := range p.columns {
		if row[c] != p.levels[i] {
			return false
		}
	}
	return true
}

func (p part) occurs(rows [][]int) bool { return slices.ContainsFunc(rows, p.isIn) }

// parts returns all combinations, in order.
func parts(k, s, t int) []part {
	var l []part
	levels := words(s, t)
	for _, columns := range subsets(k, t) {
		for _, w := range levels {
			l = append(l, part{columns, w})
		}
	}
	slices.SortFunc(l, func(p, q part) int {
		if c := slices.Compare(p.columns, q.columns); c != 0 {
			return c
		}
		return slices.Compare(p.levels, q.levels)
	})
	return l
}

// bestByHand returns the level for a column of a row, in which -1 stands for what
// is not set.
func bestByHand(rows [][]int, row []int, column, s, t int) int {
	gains := make([]int, s)
	for level := range s {
		longer := slices.Clone(row)
		longer[column] = level
		for _, columns := range subsets(len(row), t) {
			p := part{columns, picked(longer, columns)}
			if slices.Contains(columns, column) && !slices.Contains(p.levels, -1) && !p.occurs(rows) {
				gains[level]++
			}
		}
	}
	return slices.Index(gains, slices.Max(gains))
}

// coverByHand goes through all combinations for each row.
func coverByHand(k, s, t int) (api.Array, api.Errno) {
	a, l := api.Array{S: s}, parts(k, s, t)
	for {
		i := slices.IndexFunc(l, func(p part) bool { return !p.occurs(a.R) })
		if i < 0 {
			return a, api.OK
		}
		if len(a.R) == 64 {
			return api.Array{}, api.ErrBig
		}
		row := slices.Repeat([]int{-1}, k)
		for j, c := range l[i].columns {
			row[c] = l[i].levels[j]
		}
		for c, level := range row {
			if level < 0 {
				row[c] = bestByHand(a.R, row, c, s, t)
			}
		}
		a.R = append(a.R, row)
	}
}

// P11.1 (K6): all parameters.
func TestCoverByHand(t *testing.T) {
	most, big := 0, 0
	for k := 1; k <= 8; k++ {
		for s := 2; s <= 8; s++ {
			for n := 1; n <= min(k, 3); n++ {
				want, wantErr := coverByHand(k, s, n)
				got, err := array.Cover(k, s, n)
				if !same(got, want) || err != wantErr {
					t.Errorf("Cover of %d, %d and %d: %v, error %d, not %v, error %d", k, s, n, got, err, want, wantErr)
				}
				if err == api.ErrBig {
					big++
				}
				if len(got.R) == 64 {
					most++
				}
			}
		}
	}
	if most == 0 || big == 0 {
		t.Errorf("%d arrays have 64 rows, and %d would have more", most, big)
	}
}

// P11.1 (K6): arrays written out.
func TestKnownCovers(t *testing.T) {
	for _, c := range []struct {
		k, s, t int
		want    api.Array
	}{
		{1, 2, 1, arr(2, "0", "1")},
		{8, 3, 1, arr(3, "00000000", "11111111", "22222222")},
		{2, 2, 2, arr(2, "00", "01", "10", "11")},
		// All pairs of the columns 0 and 1, in order: for 12, each level gains one
		// combination, so that 0 is chosen. What is left is 12 in the columns 0
		// and 2, with which 1 alone gains one in the column 1.
		{3, 3, 2, arr(3, "000", "011", "022", "101", "110", "120", "202", "210", "221", "112")},
		{3, 2, 3, arr(2, "000", "001", "010", "011", "100", "101", "110", "111")},
		{4, 2, 3, arr(2, "0000", "0011", "0101", "0110", "1001", "1010", "1100", "1111")},
	} {
		got, err := array.Cover(c.k, c.s, c.t)
		check(t, "Cover", got, err, c.want)
	}
}

// P11.1 (K6): parameters that there are not, also if more than 64 rows would be
// necessary.
func TestCoverRefuses(t *testing.T) {
	values := append(upTo(11), extremes...)
	for _, k := range values {
		for _, s := range values {
			for _, n := range values {
				if k >= 1 && k <= 8 && s >= 2 && s <= 8 && n >= 1 && n <= min(k, 3) {
					continue
				}
				got, err := array.Cover(k, s, n)
				checkRefused(t, "Cover", got, err, api.ErrArg)
			}
		}
	}
	for _, c := range [][3]int{{3, 5, 3}, {3, 8, 3}, {8, 8, 3}, {8, 8, 2}} {
		got, err := array.Cover(c[0], c[1], c[2])
		checkRefused(t, "Cover with many rows", got, err, api.ErrBig)
	}
}
