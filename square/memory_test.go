package square_test

import (
	"math"
	"math/rand"
	"slices"
	"testing"

	"plexus/api"
	"plexus/square"
)

// arguments are those of all functions.
type arguments struct {
	l, m                [][]int
	rows, cols, symbols []int
	n, k                int
	f                   api.Field
	net                 [][][]int
}

// call is what all functions return for the same arguments: numbers are errors,
// counts and answers.
type call struct {
	rows    [][]int
	net     api.Inc
	numbers []int
}

func callAll(a arguments) call {
	cyclic, errCyclic := square.Cyclic(a.n)
	family, errFamily := square.Family(a.f)
	turned, errTurned := square.Turn(a.l, a.rows, a.cols, a.symbols)
	conjugate, errConjugate := square.Conjugate(a.l, a.k)
	count, errCount := square.Transversals(a.l)
	net, errNet := square.Net(a.n, a.net)
	c := call{
		rows:    slices.Concat(slices.Concat(family...), cyclic, turned, conjugate),
		net:     net,
		numbers: []int{count},
	}
	for _, err := range []api.Errno{errCyclic, errFamily, errTurned, errConjugate, errCount, errNet} {
		c.numbers = append(c.numbers, int(err))
	}
	for _, is := range []bool{square.Valid(a.l), square.Orthogonal(a.l, a.m)} {
		if is {
			c.numbers = append(c.numbers, len(c.numbers))
		}
	}
	return c
}

func (c call) equal(d call) bool {
	return sameSquare(c.rows, d.rows) && sameStructure(c.net, d.net) && slices.Equal(c.numbers, d.numbers)
}

func fill[T any](l []T, with T) {
	l = l[:cap(l)]
	for i := range l {
		l[i] = with
	}
}

// spoil writes to all results, also behind their ends, one after the other, and
// reports whether what is still to come stays as it is.
func (c call) spoil(want call) bool {
	kept := len(c.rows) == len(want.rows)
	for i, row := range c.rows {
		kept = kept && slices.Equal(row, want.rows[i])
		fill(row, -1)
	}
	kept = kept && slices.Equal(c.net.B, want.net.B)
	fill(c.net.B, math.MaxUint64)
	return kept
}

// roomy returns a copy of l with room behind it, which has to stay as it is.
func roomy(l []int) []int {
	longer := append(slices.Clone(l), 0, 1, 2)
	return longer[:len(l)]
}

func roomyRows(l [][]int) [][]int {
	var rows [][]int
	for _, row := range l {
		rows = append(rows, roomy(row))
	}
	return append(rows, points(3))[:len(l)]
}

// whole returns what is in a list and behind it.
func whole[T any](l []T) []T { return l[:cap(l)] }

// lists returns all lists of the arguments, with what is behind them.
func (a arguments) lists() [][]int {
	l := [][]int{whole(a.rows), whole(a.cols), whole(a.symbols), whole(a.f.Mod)}
	for _, square := range append([][][]int{a.l, a.m}, whole(a.net)...) {
		for _, row := range whole(square) {
			l = append(l, whole(row))
		}
	}
	return l
}

// P7.1 (G9), and results of memory of their own.
func TestMemoryIsNotShared(t *testing.T) {
	source := rand.New(rand.NewSource(10))
	for i, l := range samples() {
		n, order := len(l), 2+i%3
		for k := range 6 {
			a := arguments{
				l: roomyRows(l), m: roomyRows(drawn(source, n)),
				rows: roomy(source.Perm(n)), cols: roomy(source.Perm(n)), symbols: roomy(points(n)),
				n: order, k: k, f: mustField(t, orders[(i+k)%len(orders)]),
			}
			for _, square := range turnedFamily(t, source, order) {
				a.net = append(a.net, roomyRows(square))
			}
			before := clone(a.lists())
			want := callAll(a)
			if !callAll(a).spoil(want) {
				t.Errorf("results for %v share memory", a)
			}
			if !sameSquare(a.lists(), before) {
				t.Errorf("arguments were modified: %v", a)
			}
			if !callAll(a).equal(want) {
				t.Errorf("results for %v have changed", a)
			}
		}
	}
}

// P1: nothing panics or runs on, whatever the arguments are.
func TestNothingPanics(t *testing.T) {
	numbers := []int{math.MinInt, -1, 0, 1, 2, 3, 4, 5, 6, 9, 10, 1 << 32, math.MaxInt}
	squares := [][][]int{nil, {nil}, {{0}}, {{1}}, {{0, 1}, {1}}, {{0}, {1, 0}}, {numbers}, slices.Repeat([][]int{numbers}, len(numbers)), sums(2), sums(3), sums(9), sums(10), sums(300), make([][]int, 9), {{0, 1}, {0, 1}}, {{0, -1}, {-1, 0}}, {{0, 2}, {2, 0}}}
	lists := [][]int{nil, {0}, {1, 0}, {0, 0}, {0, 2}, {-1, 0}, {2, 1, 0}, points(9), points(10), numbers, points(300)}
	nets := [][][][]int{nil, {nil}, squares, make([][][]int, 100), {sums(2), sums(2)}, {sums(3), sums(2)}, slices.Repeat([][][]int{sums(4)}, 65)}
	fields := append(notFields(), mustField(t, 9), mustField(t, 64))
	for i, l := range squares {
		for j, m := range squares {
			for k, g := range lists {
				callAll(arguments{
					l: l, m: m, rows: g, cols: lists[j%len(lists)], symbols: lists[i%len(lists)],
					n: numbers[(i+k)%len(numbers)], k: numbers[(j+k)%len(numbers)],
					f: fields[(i+j+k)%len(fields)], net: nets[(i+2*j+3*k)%len(nets)],
				})
			}
		}
	}
}

// What is no square has results that are zero values, and errors.
func TestOthersHaveNoResults(t *testing.T) {
	for _, l := range samples() {
		for _, other := range append(others(l), nil, sums(10)) {
			for k := range 6 {
				conjugate, err := square.Conjugate(other, k)
				checkRefused(t, "Conjugate", conjugate, err, api.ErrArg)
			}
			right := points(len(other))
			turned, err := square.Turn(other, right, right, right)
			checkRefused(t, "Turn", turned, err, api.ErrArg)
			want := api.ErrArg
			if len(other) > 5 {
				want = api.ErrBig
			}
			if n, err := square.Transversals(other); n != 0 || err != want {
				t.Errorf("Transversals of %v: %d, error %d", other, n, err)
			}
		}
	}
}
