package array_test

import (
	"math/rand"
	"slices"
	"testing"

	"plexus/api"
	"plexus/array"
)

// arguments are those of all functions.
type arguments struct {
	a, b    api.Array
	columns []int
	squares [][][]int
	n       int
	k, s, t int
}

// call is what all functions return for the same arguments.
type call struct {
	arrays  []api.Array
	numbers []int
	is      []bool
	errs    []api.Errno
}

func callAll(x arguments) call {
	selected, errSelect := array.Select(x.a, x.columns)
	stacked, errStack := array.Stack(x.a, x.b)
	squares, errSquares := array.FromSquares(x.n, x.squares)
	covering, errCover := array.Cover(x.k, x.s, x.t)
	return call{
		arrays:  []api.Array{selected, stacked, squares, covering},
		numbers: []int{array.Strength(x.a), array.Index(x.a, x.t), array.Missing(x.a, x.t), array.Rao(x.k, x.s, x.t)},
		is:      []bool{array.Valid(x.a), array.Covers(x.a, x.t)},
		errs:    []api.Errno{errSelect, errStack, errSquares, errCover},
	}
}

func (c call) equal(d call) bool {
	return slices.EqualFunc(c.arrays, d.arrays, same) && slices.Equal(c.numbers, d.numbers) && slices.Equal(c.is, d.is) && slices.Equal(c.errs, d.errs)
}

// spoil writes to all rows, also behind their ends, one after the other, and
// reports whether what is still to come stays as it is.
func (c call) spoil(want call) bool {
	kept := true
	for i, a := range c.arrays {
		kept = kept && same(a, want.arrays[i])
		for k, row := range a.R {
			kept = kept && slices.Equal(row, want.arrays[i].R[k])
			row = row[:cap(row)]
			for m := range row {
				row[m] = -1
			}
		}
		clear(a.R[:cap(a.R)])
	}
	return kept
}

// roomy returns a copy of l with room behind it, which has to stay as it is.
func roomy[T any](l []T, room ...T) []T { return append(slices.Clone(l), room...)[:len(l)] }

func roomyRows(l [][]int) [][]int {
	var rows [][]int
	for _, row := range l {
		rows = append(rows, roomy(row, 0, 1, 0))
	}
	return roomy(rows, []int{0, 1}, []int{1, 0})
}

// wholes returns copies of all lists of the arguments, with what is behind them.
func (x arguments) wholes() [][]int {
	l := [][]int{slices.Clone(x.columns[:cap(x.columns)])}
	for _, rows := range append(x.squares[:cap(x.squares):cap(x.squares)], x.a.R, x.b.R) {
		for _, row := range rows[:cap(rows)] {
			l = append(l, slices.Clone(row[:cap(row)]))
		}
	}
	return l
}

// P11.1 (K8), and results of memory of their own.
func TestMemoryIsNotShared(t *testing.T) {
	source := rand.New(rand.NewSource(8))
	for _, a := range samples(t) {
		k := len(a.R[0])
		n := 2 + source.Intn(7)
		x := arguments{
			a:       api.Array{S: a.S, R: roomyRows(a.R)},
			b:       api.Array{S: a.S, R: roomyRows(drawn(source, a.S, k, 1+source.Intn(20)).R)},
			columns: roomy(source.Perm(k), 0, 0),
			n:       n, k: 1 + source.Intn(8), s: 2 + source.Intn(7), t: 1 + source.Intn(3),
		}
		for range source.Intn(4) {
			x.squares = append(x.squares, roomyRows(turned(t, cyclic(t, n), source.Perm(n), source.Perm(n), source.Perm(n))))
		}
		x.squares = roomy(x.squares, roomyRows(cyclic(t, n)))
		before := x.wholes()
		want := callAll(x)
		if !callAll(x).spoil(want) {
			t.Errorf("results for %v share memory", x)
		}
		if !sameRows(x.wholes(), before) {
			t.Errorf("arguments were modified: %v", x)
		}
		if !callAll(x).equal(want) {
			t.Errorf("results for %v have changed", x)
		}
	}
}

// P11.1 (K8): equal rows, columns and squares of arguments are apart in results.
func TestEqualRowsAreApart(t *testing.T) {
	row, l := []int{0, 1}, cyclic(t, 2)
	a := api.Array{S: 2, R: [][]int{row, row, row}}
	x := arguments{a: a, b: a, columns: []int{1, 1}, squares: [][][]int{l, l}, n: 2, k: 2, s: 2, t: 1}
	want := callAll(x)
	if !callAll(x).spoil(want) || !callAll(x).equal(want) {
		t.Errorf("results for %v share memory", x)
	}
}

// checkZeros fails the test if there is an array together with an error.
func checkZeros(t *testing.T, x arguments, got call) {
	t.Helper()
	for i, err := range got.errs {
		if err != api.OK && !same(got.arrays[i], api.Array{}) {
			t.Errorf("error %d for %v, and an array: %v", err, x, got.arrays[i])
		}
	}
}

// P1: nothing panics or runs on, whatever the arguments are, and what is refused
// has zero values.
func TestNothingPanics(t *testing.T) {
	rows := [][][]int{nil, {nil}, {{}}, {{0}, nil}, {nil, {0}}, {{0}, {0, 1}}, {{0, 1}, {0}}, {{-1}}, {{2}}, {extremes}, {upTo(8)}, {upTo(9)}, {upTo(300)}, cyclic(t, 8), cyclic(t, 9), make([][]int, 65), slices.Repeat([][]int{{0, 1}}, 65), slices.Repeat([][]int{extremes}, 65)}
	var arrays []api.Array
	for _, s := range extremes {
		for _, l := range rows {
			arrays = append(arrays, api.Array{S: s, R: l})
		}
	}
	lists := [][]int{nil, {0}, {0, 1}, {-1}, {8}, extremes, upTo(300)}
	squares := [][][][]int{nil, {nil}, rows[:6], rows, make([][][]int, 6), make([][][]int, 300), {cyclic(t, 8), cyclic(t, 9)}}
	for i, a := range arrays {
		// What is stacked with a may be valid, and have as many levels.
		for m, b := range []api.Array{arrays[(7*i+5)%len(arrays)], {S: a.S, R: [][]int{{0}}}} {
			for j, n := range extremes {
				k, s := extremes[(i+j+m)%len(extremes)], extremes[(i+3*j)%len(extremes)]
				x := arguments{a: a, b: b, columns: lists[(i+j)%len(lists)], squares: squares[(i+2*j)%len(squares)], n: n, k: k, s: s, t: n}
				checkZeros(t, x, callAll(x))
				x.a, x.b = b, a
				checkZeros(t, x, callAll(x))
			}
		}
	}
}
