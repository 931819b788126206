package array_test

import (
	"math/rand"
	"slices"
	"testing"

	"plexus/api"
	"plexus/array"
	"plexus/square"
)

// P11.1: the examples of the chapter.
func TestExamples(t *testing.T) {
	a := arr(2, "00", "01", "10", "11")
	if s, n := array.Strength(a), array.Index(a, 2); s != 2 || n != 1 {
		t.Errorf("all pairs have strength %d and index %d", s, n)
	}
	b := arr(2, "000", "011", "101", "110")
	if s, n := array.Strength(b), array.Missing(b, 3); s != 2 || n != 4 {
		t.Errorf("all pairs with sums have strength %d, and %d are missing", s, n)
	}
	got, err := array.Cover(3, 2, 2)
	check(t, "Cover(3, 2, 2)", got, err, b)
	for _, c := range [][4]int{{3, 2, 2, 4}, {4, 2, 3, 8}, {8, 8, 8, 188707}} {
		if n := array.Rao(c[0], c[1], c[2]); n != c[3] {
			t.Errorf("Rao of %v: %d", c[:3], n)
		}
	}
}

// others returns arrays that are like a, but for their levels, or one row.
func others(a api.Array) []api.Array {
	var l []api.Array
	for _, n := range extremes {
		l = append(l, api.Array{S: n, R: a.R})
		for _, i := range []int{0, len(a.R) / 2, len(a.R) - 1} {
			b := clone(a)
			b.R[i][n&7%len(b.R[i])] = n
			l = append(l, b)
		}
	}
	for _, i := range []int{0, len(a.R) / 2, len(a.R) - 1} {
		for _, row := range [][]int{nil, {}, {0}, a.R[i][1:], append(slices.Clone(a.R[i]), 0), make([]int, 8), make([]int, 9)} {
			b := clone(a)
			b.R[i] = row
			l = append(l, b)
		}
	}
	return append(l, api.Array{S: a.S, R: append(clone(a).R, nil)}, api.Array{S: a.S, R: append(clone(a).R, a.R[0])})
}

// P11.1 (K1): valid arrays, and what nearly is.
func TestValid(t *testing.T) {
	l := []api.Array{{}, {S: 2}, {S: 2, R: [][]int{nil}}, {S: 2, R: [][]int{nil, nil}}}
	for s := range 11 {
		for _, k := range []int{0, 1, 2, 7, 8, 9, 10, 300} {
			for _, n := range []int{0, 1, 2, 63, 64, 65, 66, 300} {
				a := api.Array{S: s}
				for range n {
					a.R = append(a.R, make([]int, k))
				}
				l = append(l, a)
			}
		}
	}
	for _, a := range samples(t) {
		l = append(append(l, a), others(a)...)
	}
	valid := 0
	for _, a := range l {
		want := isValidByHand(a)
		if array.Valid(a) != want {
			t.Errorf("Valid of %v: %t", a, !want)
		}
		if want {
			valid++
		}
	}
	if valid < 1000 || len(l)-valid < 1000 {
		t.Errorf("%d of %d arrays are valid", valid, len(l))
	}
}

// checkCounted fails the test unless the numbers of a are those by hand, for all
// strengths.
func checkCounted(t *testing.T, a api.Array) {
	t.Helper()
	strength := 0
	for n := 1; n <= len(a.R[0]); n++ {
		want := tallyByHand(a, n)
		if want.isOrthogonal {
			strength = n
		}
		if got := array.Index(a, n); got != want.index {
			t.Errorf("index of strength %d of %v: %d, not %d", n, a, got, want.index)
		}
		if got := array.Missing(a, n); got != want.missing {
			t.Errorf("missing of strength %d of %v: %d, not %d", n, a, got, want.missing)
		}
		if got := array.Covers(a, n); got != (want.missing == 0) {
			t.Errorf("%v covers strength %d: %t", a, n, got)
		}
	}
	if got := array.Strength(a); got != strength {
		t.Errorf("strength of %v: %d, not %d", a, got, strength)
	}
}

// P11.1 (K2, K3): all small arrays, and others of all sizes.
func TestCombinationsByHand(t *testing.T) {
	for _, a := range append(small(), samples(t)...) {
		checkCounted(t, a)
	}
}

// P11.1 (K2, K3): arrays whose strength is known.
func TestKnownStrengths(t *testing.T) {
	for _, o := range known(t) {
		if got := array.Strength(o.a); got != o.strength {
			t.Errorf("strength of %v: %d, not %d", o.a, got, o.strength)
		}
		for n := 1; n <= o.strength; n++ {
			if got := array.Index(o.a, n); got*powerByHand(o.a.S, n) != len(o.a.R) || !array.Covers(o.a, n) {
				t.Errorf("index of strength %d of %v: %d, and covers it: %t", n, o.a, got, array.Covers(o.a, n))
			}
		}
		if got := array.Index(o.a, o.strength+1); got != 0 {
			t.Errorf("index of strength %d of %v: %d", o.strength+1, o.a, got)
		}
	}
}

// P11.1 (K2, K3): what covers a strength and is not orthogonal of it.
func TestCoveringIsNotOrthogonal(t *testing.T) {
	for _, a := range []api.Array{arr(2, "0", "1", "1"), arr(2, "00", "01", "10", "11", "11"), arr(2, "00", "01", "10", "11", "00", "00", "00", "00"), arr(3, "0", "1", "2", "0", "1", "0")} {
		if k := len(a.R[0]); array.Strength(a) != 0 || array.Index(a, k) != 0 || array.Missing(a, k) != 0 || !array.Covers(a, k) {
			t.Errorf("%v: strength %d, index %d, missing %d", a, array.Strength(a), array.Index(a, k), array.Missing(a, k))
		}
	}
}

// P11.1 (K2, K3): strengths that are not from 1 to k.
func TestNoStrengths(t *testing.T) {
	for _, a := range samples(t) {
		k := len(a.R[0])
		for _, n := range append([]int{k + 1, k + 2}, extremes...) {
			if n >= 1 && n <= k {
				continue
			}
			if index, missing := array.Index(a, n), array.Missing(a, n); index != 0 || missing != 0 || array.Covers(a, n) {
				t.Errorf("strength %d of %v: index %d, missing %d, covers it: %t", n, a, index, missing, array.Covers(a, n))
			}
		}
	}
}

// P11.1 (K3): combinations of many levels and columns.
func TestMostMissing(t *testing.T) {
	a := api.Array{S: 8, R: [][]int{make([]int, 8)}}
	for n, want := range []int{0, 8 * 7, 28 * 63, 56 * 511, 70 * 4095, 56 * 32767, 28 * 262143, 8 * 2097151, 16777215} {
		if got := array.Missing(a, n); got != want {
			t.Errorf("missing of strength %d: %d, not %d", n, got, want)
		}
	}
}

// selectedByHand returns the rows of these columns.
func selectedByHand(a api.Array, columns []int) api.Array {
	b := api.Array{S: a.S, R: make([][]int, len(a.R))}
	for _, c := range columns {
		for i, row := range a.R {
			b.R[i] = append(b.R[i], row[c])
		}
	}
	return b
}

// P11.1 (K4): Select, with columns that there are and others.
func TestSelect(t *testing.T) {
	source := rand.New(rand.NewSource(1))
	for _, a := range samples(t) {
		k := len(a.R[0])
		l := [][]int{nil, {}, upTo(k), upTo(k + 1), make([]int, 7), make([]int, 8), make([]int, 9), make([]int, 300), {k - 1, 0, k - 1}}
		for _, n := range append([]int{k - 1, k}, extremes...) {
			l = append(l, []int{n}, []int{0, n}, []int{n, 0, 0, 0, 0, 0, 0, 0}, []int{0, 0, 0, 0, 0, 0, 0, n}, []int{0, 0, 0, 0, n, 0, 0, 0, 0})
		}
		for range 5 {
			l = append(l, source.Perm(k), picked(source.Perm(k), make([]int, 1+source.Intn(8))))
		}
		for _, columns := range l {
			got, err := array.Select(a, columns)
			if len(columns) < 1 || len(columns) > 8 || slices.Min(columns) < 0 || slices.Max(columns) >= k {
				checkRefused(t, "Select", got, err, api.ErrArg)
				continue
			}
			check(t, "Select", got, err, selectedByHand(a, columns))
		}
	}
}

// P11.1 (K4): Stack, with arrays that fit and others.
func TestStack(t *testing.T) {
	l := samples(t)
	var fitting, large, refused int
	for i, a := range l {
		for _, b := range append(l[:i:i], a) {
			got, err := array.Stack(a, b)
			switch {
			case a.S != b.S || len(a.R[0]) != len(b.R[0]):
				checkRefused(t, "Stack", got, err, api.ErrArg)
				refused++
			case len(a.R)+len(b.R) > 64:
				checkRefused(t, "Stack", got, err, api.ErrBig)
				large++
			default:
				check(t, "Stack", got, err, api.Array{S: a.S, R: slices.Concat(a.R, b.R)})
				fitting++
			}
		}
	}
	if fitting < 100 || large < 100 || refused < 100 {
		t.Errorf("%d pairs of arrays fit, %d are too large, and %d do not fit", fitting, large, refused)
	}
}

// P11.1 (K4): the most rows of stacked arrays, and one more; ErrArg comes first.
func TestStackedRows(t *testing.T) {
	source := rand.New(rand.NewSource(2))
	for n := 1; n <= 64; n++ {
		a := drawn(source, 3, 2, n)
		b := drawn(source, 3, 2, 65-n)
		got, err := array.Stack(a, b)
		checkRefused(t, "Stack of 65 rows", got, err, api.ErrBig)
		got, err = array.Stack(a, drawn(source, 4, 2, 65-n))
		checkRefused(t, "Stack of other levels", got, err, api.ErrArg)
		got, err = array.Stack(a, drawn(source, 3, 3, 65-n))
		checkRefused(t, "Stack of other columns", got, err, api.ErrArg)
		if n < 64 {
			b.R = b.R[1:]
			got, err = array.Stack(a, b)
			check(t, "Stack of 64 rows", got, err, api.Array{S: 3, R: slices.Concat(a.R, b.R)})
		}
	}
}

// checkSquares fails the test unless the array of squares has their places and
// symbols, in order.
func checkSquares(t *testing.T, n int, l [][][]int) {
	t.Helper()
	want := api.Array{S: n, R: words(n, 2)}
	for p := range want.R {
		for _, symbols := range l {
			want.R[p] = append(want.R[p], symbols[p/n][p%n])
		}
	}
	got, err := array.FromSquares(n, l)
	check(t, "FromSquares", got, err, want)
}

// P11.1 (K5): up to six squares, equal ones and others.
func TestFromSquares(t *testing.T) {
	source := rand.New(rand.NewSource(3))
	for n := 2; n <= 8; n++ {
		squares := family(t, n)
		for range 5 {
			l := squares[source.Intn(len(squares))]
			squares = append(squares, turned(t, l, source.Perm(n), source.Perm(n), source.Perm(n)))
		}
		for count := range 7 {
			for range 10 {
				var l [][][]int
				for range count {
					l = append(l, squares[source.Intn(len(squares))])
				}
				checkSquares(t, n, l)
			}
		}
		got, err := array.FromSquares(n, slices.Repeat(squares[:1], 7))
		checkRefused(t, "FromSquares of 7 squares", got, err, api.ErrArg)
	}
}

// P11.1 (K5): orders that are not from 2 to 8.
func TestNoOrders(t *testing.T) {
	one, nine := cyclic(t, 1), cyclic(t, 9)
	for _, n := range extremes {
		if n >= 2 && n <= 8 {
			continue
		}
		for _, l := range [][][][]int{nil, {nil}, {one}, {nine}, {{}}} {
			got, err := array.FromSquares(n, l)
			checkRefused(t, "FromSquares of another order", got, err, api.ErrArg)
		}
	}
}

// P11.1 (K5): lists of rows are squares exactly if package square says so, for
// all lists of small numbers.
func TestOtherSquares(t *testing.T) {
	found := [4]int{}
	for _, shape := range [][3]int{{2, 2, 2}, {2, 2, 3}, {2, 1, 2}, {2, 2, 1}, {2, 3, 2}, {2, 3, 3}, {3, 3, 3}, {3, 2, 3}, {3, 1, 3}} {
		rows, columns, symbols := shape[0], shape[1], shape[2]
		for _, w := range words(symbols, rows*columns) {
			var l [][]int
			for row := range slices.Chunk(w, columns) {
				l = append(l, row)
			}
			for n := 2; n <= 3; n++ {
				if square.Valid(l) && len(l) == n {
					checkSquares(t, n, [][][]int{l})
					found[n]++
					continue
				}
				got, err := array.FromSquares(n, [][][]int{l})
				checkRefused(t, "FromSquares of no square", got, err, api.ErrArg)
			}
		}
	}
	// Lists of two symbols are also among those of three.
	if found != [4]int{0, 0, 4, 12} {
		t.Errorf("squares of each order: %v", found)
	}
}

// otherSquares returns lists that are like the square l, but for one of its rows
// or symbols.
func otherSquares(source *rand.Rand, l [][]int) [][][]int {
	n := len(l)
	other := [][][]int{nil, l[1:], append(cloneRows(l), l[0]), append(cloneRows(l), nil)}
	for _, s := range append([]int{n}, extremes...) {
		m := cloneRows(l)
		i, j := source.Intn(n), source.Intn(n)
		if m[i][j] != s {
			m[i][j] = s
			other = append(other, m)
		}
	}
	for _, row := range [][]int{nil, l[n-1][1:], append(slices.Clone(l[n-1]), 0), l[0], make([]int, n)} {
		m := cloneRows(l)
		m[n-1] = row
		other = append(other, m)
	}
	columns := cloneRows(l)
	for _, row := range columns {
		row[0] = row[1]
	}
	rows := slices.Repeat([][]int{upTo(n)}, n)
	return append(other, columns, rows)
}

// P11.1 (K5): what is no square, alone and as the last one of some.
func TestChangedSquares(t *testing.T) {
	source := rand.New(rand.NewSource(4))
	for n := 2; n <= 8; n++ {
		good := family(t, n)[0]
		for range 20 {
			l := turned(t, good, source.Perm(n), source.Perm(n), source.Perm(n))
			for _, other := range otherSquares(source, l) {
				for count := range 6 {
					squares := append(slices.Repeat([][][]int{good}, count), other)
					got, err := array.FromSquares(n, squares)
					checkRefused(t, "FromSquares of no square", got, err, api.ErrArg)
				}
			}
		}
		for m := 2; m <= 8; m++ {
			if m != n {
				got, err := array.FromSquares(m, [][][]int{good})
				checkRefused(t, "FromSquares of another order", got, err, api.ErrArg)
			}
		}
	}
}

// raoByHand adds up the words with few elements other than 0: at most half of the
// strength, and of those with one more, if the strength is odd, the ones that have
// such an element in the first column.
func raoByHand(k, s, t int) int {
	sum := 0
	for weight := range k + 1 {
		for _, places := range subsets(k, weight) {
			if 2*weight <= t || 2*weight == t+1 && places[0] == 0 {
				sum += powerByHand(s-1, weight)
			}
		}
	}
	return sum
}

// P11.1 (K7): all parameters.
func TestRao(t *testing.T) {
	for _, k := range append(upTo(11), extremes...) {
		for _, s := range append(upTo(11), extremes...) {
			for _, n := range append(upTo(11), extremes...) {
				want := 0
				if k >= 1 && k <= 8 && s >= 2 && s <= 8 && n >= 0 && n <= k {
					want = raoByHand(k, s, n)
				}
				if got := array.Rao(k, s, n); got != want {
					t.Errorf("Rao of %d, %d and %d: %d, not %d", k, s, n, got, want)
				}
			}
		}
	}
}
