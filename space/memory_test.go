package space_test

import (
	"math"
	"slices"
	"testing"

	"plexus/api"
	"plexus/space"
)

// calls are the rows that all functions return.
func calls(f api.Field, n int, a, b [][]int, v []int) [][]int {
	space.Valid(f, n, a)
	space.Rank(f, a)
	space.Has(f, a, v)
	solution, _ := space.Solve(f, n, a, v)
	product := space.Apply(f, b, v)
	solved, _ := space.Solve(f, n, b, product)
	inverse, _ := space.Inverse(f, a)
	return slices.Concat(
		[][]int{solution, product, solved}, space.Reduce(f, a), space.Kernel(f, n, a),
		space.Join(f, a, b), space.Meet(f, n, a, b), inverse,
	)
}

// E8, and results of memory of their own: writing to a result, also behind its
// end, changes neither the arguments nor another result.
func TestMemoryIsNotShared(t *testing.T) {
	forLabs(t, func(l lab, n int) {
		// Reduced matrices as well, since there is nothing to change in them.
		for _, a := range [][][]int{l.mixed(n, identity(n), n), identity(n), l.reduced(n, n/2)} {
			b, v := l.reduced(n, l.from(0, n)), l.drawn(n)
			oldA, oldB, oldV, oldMod := cloned(a), cloned(b), slices.Clone(v), slices.Clone(l.f.Mod)
			wants := cloned(calls(l.f, n, a, b, v))
			results := calls(l.f, n, a, b, v)
			for i, row := range results {
				l.check("call", [][]int{row}, [][]int{wants[i]}, a, b)
				row = row[:cap(row)]
				for j := range row {
					row[j] = -1
				}
			}
			l.check("argument", a, oldA)
			l.check("argument", b, oldB)
			l.check("argument", [][]int{v, l.f.Mod}, [][]int{oldV, oldMod})
			l.check("later call", calls(l.f, n, a, b, v), wants, a, b)
		}
	})
}

// P1: nothing panics or runs on, whatever the arguments are.
func TestNothingPanics(t *testing.T) {
	fields := notFields()
	for _, q := range []int{2, 4, 9, 61} {
		fields = append(fields, newLab(t, q).f)
	}
	numbers := []int{math.MinInt, -1, 0, 1, 2, 3, 24, 25, 1 << 32, math.MaxInt}
	lists := [][]int{nil, {0}, {1, 1}, {2, 3, 1}, numbers, make([]int, 24), slices.Repeat([]int{5}, 25), make([]int, 300)}
	matrices := [][][]int{
		nil, {nil}, {{0}}, {{1}, {1, 1}}, {{1, 1}, {0}}, {{1, 1}, nil}, {{1, 1}, {1, 3}}, {{1}, make([]int, 300)}, {{2, 1, 0}, {-1, 64, 5}}, {{0, 0}, {math.MinInt, math.MaxInt}},
		{numbers, numbers}, slices.Repeat([][]int{{1, 2, 3}}, 100), slices.Repeat([][]int{make([]int, 30)}, 30), {{64, 65}, {63, 64}}, {{4, 2}, {2, 4}, {7, 7}},
	}
	for _, f := range fields {
		for i, a := range matrices {
			for j, n := range numbers {
				calls(f, n, a, matrices[(i+j)%len(matrices)], lists[(i+3*j)%len(lists)])
			}
			for _, v := range lists {
				calls(f, len(v), a, a, v)
			}
		}
	}
}
