package square_test

import (
	"math"
	"math/rand"
	"slices"
	"testing"

	"plexus/api"
	"plexus/field"
	"plexus/square"
)

// P7.1: the examples of the chapter.
func TestExamples(t *testing.T) {
	family := familyOf(t, 3)
	if !sameSquares(family, [][][]int{{{0, 1, 2}, {1, 2, 0}, {2, 0, 1}}, {{0, 1, 2}, {2, 0, 1}, {1, 2, 0}}}) {
		t.Errorf("Family: %v", family)
	}
	conjugate, err := square.Conjugate([][]int{{0, 1, 2}, {1, 2, 0}, {2, 0, 1}}, 1)
	check(t, "Conjugate", conjugate, err, [][]int{{0, 1, 2}, {2, 0, 1}, {1, 2, 0}})
	for n, want := range map[int]int{2: 0, 3: 3, 4: 0} {
		l, err := square.Cyclic(n)
		check(t, "Cyclic", l, err, sums(n))
		if got := mustCount(t, l); got != want {
			t.Errorf("%d transversals of the order %d", got, n)
		}
	}
}

// P7.1: squares are valid.
func TestSquaresAreValid(t *testing.T) {
	for _, l := range samples() {
		if !square.Valid(l) {
			t.Errorf("not valid: %v", l)
		}
	}
}

// forTables runs a test for each table of n rows with these symbols.
func forTables(n int, symbols []int, test func(l [][]int)) {
	l := make([][]int, n)
	for i := range l {
		l[i] = make([]int, n)
	}
	var fill func(place int)
	fill = func(place int) {
		if place == n*n {
			test(l)
			return
		}
		for _, s := range symbols {
			l[place/n][place%n] = s
			fill(place + 1)
		}
	}
	fill(0)
}

// P7.1: Valid for all small tables.
func TestValidForAllTables(t *testing.T) {
	for _, c := range []struct {
		n       int
		symbols []int
		want    int
	}{{1, []int{-1, 0, 1, 2}, 1}, {2, []int{-1, 0, 1, 2, 3}, 2}, {3, []int{0, 1, 2, 3}, 12}} {
		valid := 0
		forTables(c.n, c.symbols, func(l [][]int) {
			is := square.Valid(l)
			if is {
				valid++
			}
			if is && !isLatin(l) {
				t.Errorf("valid: %v", l)
			}
		})
		if valid != c.want {
			t.Errorf("%d squares of order %d, not %d", valid, c.n, c.want)
		}
	}
}

// P7.1: Valid for all tables of order 4 whose rows, or whose columns, have each
// symbol once.
func TestValidForAllRows(t *testing.T) {
	permutations, valid := allPermutations(4), 0
	l := make([][]int, 4)
	for i := range len(permutations) * len(permutations) * len(permutations) * len(permutations) {
		for j := range l {
			l[j] = permutations[i%len(permutations)]
			i /= len(permutations)
		}
		is := square.Valid(l)
		if is {
			valid++
		}
		if is != square.Valid([][]int{columnOf(l, 0), columnOf(l, 1), columnOf(l, 2), columnOf(l, 3)}) {
			t.Errorf("valid only with rows as rows, or as columns: %v", l)
		}
	}
	if valid != 576 {
		t.Errorf("%d squares of order 4", valid)
	}
}

// others returns what differs from a square in its shape.
func others(l [][]int) [][][]int {
	n := len(l)
	list := [][][]int{l[:n-1], append(clone(l), points(n)), append(clone(l), nil)}
	for i := range n {
		shorter, longer, missing := clone(l), clone(l), clone(l)
		shorter[i] = shorter[i][:n-1]
		longer[i] = append(longer[i], n-1)
		missing[i] = nil
		list = append(list, shorter, longer, missing)
	}
	narrow, wide := clone(l), clone(l)
	for i := range n {
		narrow[i] = narrow[i][:n-1]
		wide[i] = append(wide[i], n)
	}
	return append(list, narrow, wide)
}

// P7.1: Valid accepts all arguments.
func TestOthersAreNotValid(t *testing.T) {
	for _, l := range samples() {
		for _, other := range others(l) {
			if square.Valid(other) {
				t.Errorf("valid: %v", other)
			}
		}
		n := len(l)
		for place := range n * n {
			for _, s := range append(points(n), math.MinInt, -n, -1, n, 9, 64, 1<<32, math.MaxInt) {
				other := clone(l)
				other[place/n][place%n] = s
				if s != l[place/n][place%n] && square.Valid(other) {
					t.Errorf("valid: %v", other)
				}
			}
		}
	}
	for _, n := range []int{10, 11, 16, 17, 64, 300} {
		if square.Valid(sums(n)) || square.Valid(make([][]int, n)) {
			t.Errorf("valid of order %d", n)
		}
	}
	if square.Valid(nil) || square.Valid([][]int{}) || square.Valid([][]int{nil}) {
		t.Error("valid without symbols")
	}
}

// P7.1: Cyclic.
func TestCyclic(t *testing.T) {
	for n := 1; n <= 9; n++ {
		l, err := square.Cyclic(n)
		check(t, "Cyclic", l, err, sums(n))
	}
	for _, n := range []int{math.MinInt, -1, 0, 10, 11, 1 << 32, 1<<32 + 3, math.MaxInt} {
		l, err := square.Cyclic(n)
		checkRefused(t, "Cyclic", l, err, api.ErrArg)
	}
}

// P7.1: Orthogonal for all squares of small orders. The numbers of pairs are
// known.
func TestOrthogonalForAllSquares(t *testing.T) {
	for n, want := range map[int]int{1: 1, 2: 0, 3: 72, 4: 6912} {
		pairs, squares := 0, allSquares(n)
		for i, a := range squares {
			for j, b := range squares {
				is := square.Orthogonal(a, b)
				if is {
					pairs++
				}
				// By hand not for all, which would take long.
				if (i*j%7 == 0 || is) && is != areOrthogonal(a, b) {
					t.Errorf("Orthogonal of %v and %v: %t", a, b, is)
				}
			}
		}
		if pairs != want {
			t.Errorf("%d pairs of order %d, not %d", pairs, n, want)
		}
	}
}

// P7.1: Orthogonal for squares of all orders.
func TestOrthogonal(t *testing.T) {
	l := samples()
	for _, q := range orders {
		l = append(l, familyOf(t, q)...)
	}
	for _, a := range l {
		for _, b := range l {
			want := len(a) == len(b) && areOrthogonal(a, b)
			if got := square.Orthogonal(a, b); got != want {
				t.Errorf("Orthogonal of %v and %v: %t", a, b, got)
			}
		}
	}
}

// P7.1: what has no order, or not the same one, is not orthogonal to anything.
func TestOthersAreNotOrthogonal(t *testing.T) {
	for _, l := range samples() {
		for _, other := range append(others(l), nil, sums(10)) {
			if square.Orthogonal(l, other) || square.Orthogonal(other, l) || square.Orthogonal(other, other) {
				t.Errorf("orthogonal: %v and %v", l, other)
			}
		}
	}
}

// productByHand multiplies in a field with q elements.
func productByHand(q, a, b int) int {
	switch q {
	case 4, 8:
		// The moduli are x^2 + x + 1 and x^3 + x + 1.
		modulus := q + 3
		product := 0
		for i := range 3 {
			product ^= b >> i & 1 * a << i
		}
		for i := 2; i >= 0; i-- {
			if product >= q<<i {
				product ^= modulus << i
			}
		}
		return product
	case 9:
		// The modulus is x^2 + 1.
		c, d := a/3, b/3
		a, b = a%3, b%3
		return (a*b+2*c*d)%3 + 3*((a*d+b*c)%3)
	}
	return a * b % q
}

func sumByHand(q, a, b int) int {
	switch q {
	case 4, 8:
		return a ^ b
	case 9:
		return (a+b)%3 + 3*((a/3+b/3)%3)
	}
	return (a + b) % q
}

// P7.1: Family.
func TestFamily(t *testing.T) {
	for _, q := range orders {
		var want [][][]int
		for m := 1; m < q; m++ {
			var l [][]int
			for i := range q {
				var row []int
				for j := range q {
					row = append(row, sumByHand(q, productByHand(q, m, i), j))
				}
				l = append(l, row)
			}
			want = append(want, l)
		}
		if got := familyOf(t, q); !sameSquares(got, want) {
			t.Errorf("Family with %d elements: %v, not %v", q, got, want)
		}
	}
}

// notFields returns what is no field.
func notFields() []api.Field {
	return []api.Field{
		{},
		{P: 2, E: 1},
		{P: 2, E: 1, Mod: []int{1}},
		{P: 2, E: 2, Mod: []int{1, 0}},
		{P: 2, E: 3, Mod: []int{1, 0, 1}},
		{P: 3, E: 2, Mod: []int{2, 1}},
		{P: 3, E: 1, Mod: []int{0, 0}},
		{P: 4, E: 1, Mod: []int{0}},
		{P: 6, E: 1, Mod: []int{0}},
		{P: 9, E: 1, Mod: []int{0}},
		{P: 10, E: 1, Mod: []int{0}},
		{P: 67, E: 1, Mod: []int{0}},
		{P: 2, E: 7, Mod: make([]int, 7)},
		{P: -2, E: 1, Mod: []int{0}},
		{P: math.MaxInt, E: math.MaxInt, Mod: []int{0}},
		{P: 2, E: 0},
	}
}

// P7.1: what has no family.
func TestFamilyIsRefused(t *testing.T) {
	for _, f := range notFields() {
		l, err := square.Family(f)
		if len(l) != 0 || err != api.ErrArg {
			t.Errorf("Family of %v: %v, error %d", f, l, err)
		}
	}
	for q := 10; q <= api.MaxField; q++ {
		f, err := field.Make(q)
		if err != api.OK {
			continue
		}
		l, err := square.Family(f)
		if len(l) != 0 || err != api.ErrBig {
			t.Errorf("Family with %d elements: %v, error %d", q, l, err)
		}
	}
}

// P7.1: Turn.
func TestTurn(t *testing.T) {
	source := rand.New(rand.NewSource(1))
	for _, l := range samples() {
		n := len(l)
		for range 6 {
			rows, cols, symbols := source.Perm(n), source.Perm(n), source.Perm(n)
			var want [][]int
			for i := range n {
				var row []int
				for j := range n {
					row = append(row, symbols[l[slices.Index(rows, i)][slices.Index(cols, j)]])
				}
				want = append(want, row)
			}
			got, err := square.Turn(l, rows, cols, symbols)
			check(t, "Turn", got, err, want)
		}
		got, err := square.Turn(l, points(n), points(n), points(n))
		check(t, "Turn by nothing", got, err, l)
	}
}

// notPermutations returns lists that are no permutations of 0 to n - 1.
func notPermutations(n int) [][]int {
	l := [][]int{nil, points(n + 1), points(n)[:n-1], points(n)[1:], append(points(n), 0), slices.Repeat([]int{0}, n+1), points(100)}
	for i := range n {
		for _, s := range []int{math.MinInt, -1, n, 9, 64, 1 << 32, math.MaxInt} {
			g := points(n)
			g[i] = s
			l = append(l, g)
		}
		for j := range i {
			g := points(n)
			g[i] = j
			l = append(l, g)
		}
	}
	return l
}

// P7.1: what is no permutation turns nothing.
func TestTurnByOthers(t *testing.T) {
	for _, l := range samples() {
		right := points(len(l))
		for _, g := range notPermutations(len(l)) {
			for k := range 3 {
				lists := [][]int{right, right, right}
				lists[k] = g
				got, err := square.Turn(l, lists[0], lists[1], lists[2])
				checkRefused(t, "Turn", got, err, api.ErrArg)
			}
		}
	}
}

// P7.1: Conjugate.
func TestConjugate(t *testing.T) {
	for _, l := range samples() {
		for k := range 6 {
			got, err := square.Conjugate(l, k)
			check(t, "Conjugate", got, err, conjugateByHand(l, k))
		}
		for _, k := range []int{math.MinInt, -6, -1, 6, 7, 1 << 32, 1<<32 + 1, math.MaxInt} {
			got, err := square.Conjugate(l, k)
			checkRefused(t, "Conjugate", got, err, api.ErrArg)
		}
	}
}

// P7.1: conjugates that were written by hand; the square has no two that are
// equal.
func TestConjugatesByHand(t *testing.T) {
	l := [][]int{
		{0, 1, 2, 3, 4},
		{1, 0, 3, 4, 2},
		{4, 3, 1, 2, 0},
		{2, 4, 0, 1, 3},
		{3, 2, 4, 0, 1},
	}
	for k, want := range [][][]int{
		l,
		{{0, 1, 2, 3, 4}, {1, 0, 4, 2, 3}, {4, 2, 3, 1, 0}, {2, 3, 0, 4, 1}, {3, 4, 1, 0, 2}},
		{{0, 1, 4, 2, 3}, {1, 0, 3, 4, 2}, {2, 3, 1, 0, 4}, {3, 4, 2, 1, 0}, {4, 2, 0, 3, 1}},
		{{0, 1, 3, 4, 2}, {1, 0, 4, 2, 3}, {3, 2, 0, 1, 4}, {4, 3, 2, 0, 1}, {2, 4, 1, 3, 0}},
		{{0, 1, 4, 2, 3}, {1, 0, 2, 3, 4}, {2, 4, 3, 0, 1}, {3, 2, 1, 4, 0}, {4, 3, 0, 1, 2}},
		{{0, 1, 3, 4, 2}, {1, 0, 2, 3, 4}, {3, 4, 0, 2, 1}, {4, 2, 1, 0, 3}, {2, 3, 4, 1, 0}},
	} {
		got, err := square.Conjugate(l, k)
		check(t, "Conjugate", got, err, want)
	}
}

// P7.1: Transversals.
func TestTransversals(t *testing.T) {
	for _, l := range append(samples(), allSquares(4)...) {
		n, err := square.Transversals(l)
		if len(l) > 5 {
			if n != 0 || err != api.ErrBig {
				t.Errorf("Transversals of %v: %d, error %d", l, n, err)
			}
			continue
		}
		if want := transversalsByHand(l); n != want || err != api.OK {
			t.Errorf("Transversals of %v: %d, error %d, not %d", l, n, err, want)
		}
	}
}

// netsOf returns lists of squares of order n: few ones, all pairs that are drawn,
// and families.
func netsOf(t *testing.T, source *rand.Rand, n int) [][][][]int {
	t.Helper()
	squares := allSquares(n)
	l := [][][][]int{nil}
	for _, a := range squares {
		l = append(l, [][][]int{a}, [][][]int{a, a})
	}
	for range 200 {
		a, b, c := squares[source.Intn(len(squares))], squares[source.Intn(len(squares))], squares[source.Intn(len(squares))]
		l = append(l, [][][]int{a, b}, [][][]int{a, b, c})
	}
	if n > 1 {
		for range 50 {
			l = append(l, turnedFamily(t, source, n))
		}
	}
	return l
}

// turnedFamily returns a family that was turned: all squares by the same rows and
// columns, but by different symbols, and in another order.
func turnedFamily(t *testing.T, source *rand.Rand, n int) [][][]int {
	t.Helper()
	rows, cols := source.Perm(n), source.Perm(n)
	family := familyOf(t, n)
	for i, l := range family {
		family[i] = mustTurn(t, l, rows, cols, source.Perm(n))
	}
	source.Shuffle(len(family), func(i, j int) { family[i], family[j] = family[j], family[i] })
	return family
}

// P7.1: Net.
func TestNet(t *testing.T) {
	source := rand.New(rand.NewSource(2))
	for n := 1; n <= 4; n++ {
		made := map[int]int{}
		for _, l := range netsOf(t, source, n) {
			want, wantErr := netByHand(n, l), api.OK
			for i, a := range l {
				for _, b := range l[:i] {
					if !areOrthogonal(a, b) {
						want, wantErr = api.Inc{}, api.ErrNot
					}
				}
			}
			got, err := square.Net(n, l)
			if !sameStructure(got, want) || err != wantErr {
				t.Errorf("Net of order %d of %v: %v, error %d, not %v, error %d", n, l, got, err, want, wantErr)
			}
			if err == api.OK {
				made[len(l)]++
			}
		}
		for k := range n {
			if made[k] == 0 {
				t.Errorf("no net of %d squares of order %d", k, n)
			}
		}
	}
}

// P7.1: the limit of blocks, and which error comes first.
func TestNetIsRefused(t *testing.T) {
	refused := func(n int, l [][][]int, want api.Errno) {
		t.Helper()
		x, err := square.Net(n, l)
		if x.V != 0 || len(x.B) != 0 || err != want {
			t.Errorf("Net of order %d with %d squares: %v, error %d, not %d", n, len(l), x, err, want)
		}
	}
	for n, most := range map[int]int{1: 62, 2: 30, 3: 19, 4: 14} {
		many := slices.Repeat([][][]int{sums(n)}, most+1)
		refused(n, many, api.ErrBig)
		refused(n, slices.Repeat(many, 100), api.ErrBig)
		if n > 1 {
			refused(n, many[:most], api.ErrNot)
		} else if x, err := square.Net(1, many[:most]); !sameStructure(x, netByHand(1, many[:most])) || err != api.OK {
			t.Errorf("Net of 62 squares: %v, error %d", x, err)
		}
		for _, other := range append(others(sums(n)), nil, sums(n+1), sums(n)[:n-1], slices.Repeat([][]int{points(n)}, n+1)) {
			for _, l := range [][][][]int{{other}, {sums(n), sums(n), other}, {other, sums(n), sums(n)}, append(slices.Clone(many), other)} {
				refused(n, l, api.ErrArg)
			}
		}
	}
	for n := 5; n <= 10; n++ {
		refused(n, nil, api.ErrArg)
		refused(n, [][][]int{sums(n)}, api.ErrArg)
		refused(n, slices.Repeat([][][]int{sums(n)}, 65), api.ErrArg)
	}
	for _, n := range []int{math.MinInt, -1, 0, 1 << 32, 1<<32 + 2, math.MaxInt} {
		for _, l := range [][][][]int{nil, {nil}, {{{0}}}, make([][][]int, 65)} {
			refused(n, l, api.ErrArg)
		}
	}
}
