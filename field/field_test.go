package field_test

import (
	"math"
	"math/bits"
	"slices"
	"testing"

	"plexus/api"
	"plexus/field"
)

// sizes are the prime powers from 2 to 64.
var sizes = []int{2, 3, 4, 5, 7, 8, 9, 11, 13, 16, 17, 19, 23, 25, 27, 29, 31, 32, 37, 41, 43, 47, 49, 53, 59, 61, 64}

func makeField(t testing.TB, q int) api.Field {
	t.Helper()
	f, err := field.Make(q)
	if err != api.OK {
		t.Fatalf("Make(%d): error %d", q, err)
	}
	return f
}

// forFields runs a test for each field.
func forFields(t *testing.T, test func(t *testing.T, f api.Field, q int)) {
	for _, q := range sizes {
		test(t, makeField(t, q), q)
	}
}

// list returns the first n digits of a in the base p.
func list(p, a, n int) []int {
	l := make([]int, n)
	for i := range l {
		l[i] = a % p
		a /= p
	}
	return l
}

// value returns the number with the digits l in the base p.
func value(p int, l []int) int {
	n := 0
	for _, d := range slices.Backward(l) {
		n = n*p + d
	}
	return n
}

// multiply returns the product of two polynomials modulo p.
func multiply(p int, v, w []int) []int {
	product := make([]int, len(v)+len(w)-1)
	for i, a := range v {
		for j, b := range w {
			product[i+j] = (product[i+j] + a*b) % p
		}
	}
	return product
}

// mulByHand multiplies elements as polynomials and divides by the modulus
// afterwards, from the greatest power on.
func mulByHand(f api.Field, a, b int) int {
	product := multiply(f.P, list(f.P, a, f.E), list(f.P, b, f.E))
	for i := len(product) - 1; i >= f.E; i-- {
		for j, c := range f.Mod {
			product[i-f.E+j] = (product[i-f.E+j] + (f.P-product[i])*c) % f.P
		}
	}
	return value(f.P, product[:f.E])
}

// digitwise combines a and b digit by digit.
func digitwise(f api.Field, a, b int, op func(x, y int) int) int {
	v, w := list(f.P, a, f.E), list(f.P, b, f.E)
	for i := range v {
		v[i] = (op(v[i], w[i])%f.P + f.P) % f.P
	}
	return value(f.P, v)
}

// P1.1: Make.
func TestMakeReturnsTheField(t *testing.T) {
	for _, c := range []struct {
		q, p, e int
		mod     []int
	}{
		{2, 2, 1, []int{0}},
		{3, 3, 1, []int{0}},
		{61, 61, 1, []int{0}},
		{4, 2, 2, []int{1, 1}},
		{8, 2, 3, []int{1, 1, 0}},
		{16, 2, 4, []int{1, 1, 0, 0}},
		{32, 2, 5, []int{1, 0, 1, 0, 0}},
		{64, 2, 6, []int{1, 1, 0, 0, 0, 0}},
		{9, 3, 2, []int{1, 0}},
		{27, 3, 3, []int{1, 2, 0}},
		{25, 5, 2, []int{2, 0}},
		{49, 7, 2, []int{1, 0}},
	} {
		f := makeField(t, c.q)
		if f.P != c.p || f.E != c.e || !slices.Equal(f.Mod, c.mod) {
			t.Errorf("Make(%d) = %v", c.q, f)
		}
	}
}

// P1.1: Size, Valid, and the shape of each field.
func TestFieldsAreValid(t *testing.T) {
	forFields(t, func(t *testing.T, f api.Field, q int) {
		if field.Size(f) != q {
			t.Errorf("Size for %d: %d", q, field.Size(f))
		}
		if !field.Valid(f) {
			t.Errorf("the field with %d elements is not valid", q)
		}
		if len(f.Mod) != f.E || int(math.Round(math.Pow(float64(f.P), float64(f.E)))) != q {
			t.Errorf("Make(%d) = %v", q, f)
		}
		f.Mod = append(make([]int, 0, 20), f.Mod...)
		if !field.Valid(f) {
			t.Errorf("the capacity of Mod matters for %d", q)
		}
	})
}

// P1.1: Valid refuses each change of a valid field.
func TestChangedFieldsAreNotValid(t *testing.T) {
	forFields(t, func(t *testing.T, f api.Field, q int) {
		changed := []api.Field{
			{P: 2 * f.P, E: f.E, Mod: f.Mod},
			{P: -f.P, E: f.E, Mod: f.Mod},
			{P: f.P, E: f.E + 1, Mod: f.Mod},
			{P: f.P, E: f.E - 1, Mod: f.Mod},
			{P: f.P, E: f.E},
			{P: f.P, E: f.E, Mod: f.Mod[1:]},
			{P: f.P, E: f.E, Mod: append(slices.Clone(f.Mod), 0)},
		}
		for i := range f.Mod {
			for _, by := range []int{1, -1, f.P, -f.P, math.MinInt} {
				mod := slices.Clone(f.Mod)
				mod[i] += by
				changed = append(changed, api.Field{P: f.P, E: f.E, Mod: mod})
			}
		}
		for _, g := range changed {
			if field.Valid(g) {
				t.Errorf("valid: %v", g)
			}
		}
	})
}

// notFields has no valid field, but what looks like one, and what could lead a
// loop astray.
func notFields() []api.Field {
	l := []api.Field{
		{},
		{P: 2, E: 1},
		{P: 2, E: 2, Mod: []int{0, 1}},
		{P: 2, E: 3, Mod: []int{1, 0, 1}}, // irreducible, but not the least one
		{P: 3, E: 2, Mod: []int{2, 1}},    // likewise
		{P: 2, E: 2, Mod: []int{3, 1}},
		{P: 3, E: 1, Mod: []int{1}},
		{P: 2, E: 7, Mod: []int{1, 1, 0, 0, 0, 0, 0}},
		{P: 3, E: 4, Mod: []int{2, 1, 0, 0}},
		{P: 67, E: 1, Mod: []int{0}},
		{P: 1, E: 1, Mod: []int{0}},
		{P: 0, E: 1, Mod: []int{0}},
		{P: 2, E: 2, Mod: []int{math.MinInt, math.MaxInt}},
		{P: 2, E: 64, Mod: make([]int, 64)},
		{P: 3, E: 41, Mod: make([]int, 41)},
	}
	for _, p := range []int{4, 6, 8, 9, 15, 49, 63, 64} {
		l = append(l, api.Field{P: p, E: 1, Mod: []int{0}})
	}
	large := []int{math.MinInt, math.MinInt + 1, -1, 0, 1, 1 << 32, 1 << 62, math.MaxInt}
	for _, x := range large {
		for _, mod := range [][]int{nil, {0}, {1, 1}, {1, 1, 0}} {
			l = append(l, api.Field{P: x, E: len(mod), Mod: mod})
			if x != len(mod) {
				l = append(l, api.Field{P: 2, E: x, Mod: mod})
			}
			l = append(l, api.Field{P: x, E: x, Mod: mod})
		}
	}
	return l
}

// P1.1: Valid accepts all arguments.
func TestOthersAreNotValid(t *testing.T) {
	for _, f := range notFields() {
		if field.Valid(f) {
			t.Errorf("valid: %v", f)
		}
	}
}

// P1.1: Add, Sub, Neg and Mul.
func TestArithmetic(t *testing.T) {
	forFields(t, func(t *testing.T, f api.Field, q int) {
		for a := range q {
			if got, want := field.Neg(f, a), digitwise(f, 0, a, func(x, y int) int { return x - y }); got != want {
				t.Errorf("%d elements: -%d = %d, not %d", q, a, got, want)
			}
			for b := range q {
				if got, want := field.Add(f, a, b), digitwise(f, a, b, func(x, y int) int { return x + y }); got != want {
					t.Errorf("%d elements: %d + %d = %d, not %d", q, a, b, got, want)
				}
				if got, want := field.Sub(f, a, b), digitwise(f, a, b, func(x, y int) int { return x - y }); got != want {
					t.Errorf("%d elements: %d - %d = %d, not %d", q, a, b, got, want)
				}
				if got, want := field.Mul(f, a, b), mulByHand(f, a, b); got != want {
					t.Errorf("%d elements: %d %d = %d, not %d", q, a, b, got, want)
				}
			}
		}
	})
}

// P1.1: the examples of the chapter, and others in fields with 5 and 9 elements.
func TestExamples(t *testing.T) {
	four, five, nine := makeField(t, 4), makeField(t, 5), makeField(t, 9)
	inverse, err := field.Inv(four, 2)
	for _, c := range []struct {
		what      string
		got, want int
	}{
		{"2 times 2 of 4", field.Mul(four, 2, 2), 3},
		{"inverse of 2 of 4", inverse, 3},
		{"its error", int(err), int(api.OK)},
		{"trace of 2 of 4", field.Trace(four, 2), 1},
		{"primitive element of 9", field.Primitive(nine), 4},
		{"x times x of 9", field.Mul(nine, 3, 3), 2},
		{"trace of 1 of 9", field.Trace(nine, 1), 2},
		{"order of 3 of 9", field.Order(nine, 3), 4},
		{"3 plus 4 of 5", field.Add(five, 3, 4), 2},
		{"3 minus 4 of 5", field.Sub(five, 3, 4), 4},
		{"3 times 4 of 5", field.Mul(five, 3, 4), 2},
		{"minus 0 of 5", field.Neg(five, 0), 0},
		{"primitive element of 5", field.Primitive(five), 2},
		{"order of 4 of 5", field.Order(five, 4), 2},
		{"trace of 3 of 5", field.Trace(five, 3), 3},
	} {
		if c.got != c.want {
			t.Errorf("%s: %d, not %d", c.what, c.got, c.want)
		}
	}
}

// P1.1: Inv.
func TestInverses(t *testing.T) {
	forFields(t, func(t *testing.T, f api.Field, q int) {
		if x, err := field.Inv(f, 0); x != 0 || err != api.ErrZero {
			t.Errorf("%d elements: inverse of 0: %d, error %d", q, x, err)
		}
		for a := 1; a < q; a++ {
			x, err := field.Inv(f, a)
			if err != api.OK || x < 1 || x >= q || mulByHand(f, a, x) != 1 {
				t.Errorf("%d elements: inverse of %d: %d, error %d", q, a, x, err)
			}
		}
	})
}

func checkPower(t *testing.T, f api.Field, a, n, want int) {
	t.Helper()
	if x, err := field.Pow(f, a, n); x != want || err != api.OK {
		t.Errorf("%d elements: %d to the power of %d: %d, error %d, not %d", field.Size(f), a, n, x, err, want)
	}
}

// P1.1: Pow with small exponents of both signs.
func TestSmallPowers(t *testing.T) {
	forFields(t, func(t *testing.T, f api.Field, q int) {
		for a := 1; a < q; a++ {
			inverse, _ := field.Inv(f, a)
			power, negative := 1, 1
			for n := range 2*q + 3 {
				checkPower(t, f, a, n, power)
				checkPower(t, f, a, -n, negative)
				power, negative = mulByHand(f, power, a), mulByHand(f, negative, inverse)
			}
		}
	})
}

// P1.1: Pow with exponents 2^i, -2^i up to the least integer, and their
// neighbours up to the greatest one.
func TestLargePowers(t *testing.T) {
	forFields(t, func(t *testing.T, f api.Field, q int) {
		for a := 1; a < q; a++ {
			inverse, _ := field.Inv(f, a)
			power, negative := a, inverse
			for i := range bits.UintSize {
				n := -1 << i
				checkPower(t, f, a, n, negative)
				checkPower(t, f, a, n+1, mulByHand(f, negative, a))
				checkPower(t, f, a, -(n + 1), mulByHand(f, power, inverse))
				if i < bits.UintSize-1 {
					checkPower(t, f, a, -n, power)
				}
				power, negative = mulByHand(f, power, power), mulByHand(f, negative, negative)
			}
		}
	})
}

// P1.1: Pow of 0, and the power 0.
func TestPowersOfZero(t *testing.T) {
	forFields(t, func(t *testing.T, f api.Field, q int) {
		checkPower(t, f, 0, 0, 1)
		for _, n := range []int{1, 2, q - 1, q, math.MaxInt} {
			checkPower(t, f, 0, n, 0)
		}
		for _, n := range []int{-1, -2, 1 - q, -q, math.MinInt + 1, math.MinInt} {
			if x, err := field.Pow(f, 0, n); x != 0 || err != api.ErrZero {
				t.Errorf("%d elements: 0 to the power of %d: %d, error %d", q, n, x, err)
			}
		}
		for a := range q {
			checkPower(t, f, a, 0, 1)
		}
	})
}

// P1.1: Order and Primitive.
func TestOrders(t *testing.T) {
	forFields(t, func(t *testing.T, f api.Field, q int) {
		if n := field.Order(f, 0); n != 0 {
			t.Errorf("%d elements: order of 0: %d", q, n)
		}
		if n := field.Order(f, 1); n != 1 {
			t.Errorf("%d elements: order of 1: %d", q, n)
		}
		primitive := 0
		for a := 1; a < q; a++ {
			want := 1
			for power := a; power != 1; want++ {
				power = mulByHand(f, power, a)
			}
			if n := field.Order(f, a); n != want {
				t.Errorf("%d elements: order of %d: %d, not %d", q, a, n, want)
			}
			if want == q-1 && primitive == 0 {
				primitive = a
			}
		}
		if a := field.Primitive(f); a != primitive {
			t.Errorf("%d elements: least primitive element %d, not %d", q, a, primitive)
		}
	})
}

// P1.1: Trace.
func TestTraces(t *testing.T) {
	forFields(t, func(t *testing.T, f api.Field, q int) {
		for a := range q {
			want, conjugate := 0, a
			for range f.E {
				want = digitwise(f, want, conjugate, func(x, y int) int { return x + y })
				power := 1
				for range f.P {
					power = mulByHand(f, power, conjugate)
				}
				conjugate = power
			}
			if got := field.Trace(f, a); got != want {
				t.Errorf("%d elements: trace of %d: %d, not %d", q, a, got, want)
			}
		}
	})
}

// callAll calls all functions.
func callAll(f api.Field, a, b, n int) {
	field.Make(n)
	field.Valid(f)
	field.Size(f)
	field.Add(f, a, b)
	field.Sub(f, a, b)
	field.Mul(f, a, b)
	field.Neg(f, a)
	field.Inv(f, a)
	field.Pow(f, a, n)
	field.Order(f, a)
	field.Primitive(f)
	field.Trace(f, a)
}

// A7, in P1.1 through the rules: arguments are not modified.
func TestArgumentsAreKept(t *testing.T) {
	forFields(t, func(t *testing.T, f api.Field, q int) {
		before := slices.Clone(f.Mod)
		for a := range q {
			callAll(f, a, q-1, a-q)
		}
		if !slices.Equal(f.Mod, before) {
			t.Errorf("%d elements: the modulus became %v", q, f.Mod)
		}
	})
}

// The rules: no package keeps state, and results are new memory.
func TestFieldsShareNoMemory(t *testing.T) {
	forFields(t, func(t *testing.T, f api.Field, q int) {
		g := makeField(t, q)
		for i := range f.Mod {
			f.Mod[i] = -7
		}
		if !field.Valid(g) || !field.Valid(makeField(t, q)) {
			t.Errorf("%d elements: a change of one field changes another one", q)
		}
	})
}

// P1: every function terminates and does not panic, whatever its arguments are.
func TestNothingPanics(t *testing.T) {
	fields := notFields()
	for _, q := range sizes {
		fields = append(fields, makeField(t, q))
	}
	numbers := []int{math.MinInt, math.MinInt + 1, -64, -1, 0, 1, 2, 63, 64, 127, 128, 1 << 32, 1 << 62, math.MaxInt}
	for _, f := range fields {
		for _, a := range numbers {
			for _, b := range numbers {
				callAll(f, a, b, b)
			}
		}
	}
}

// table has the results of op for all pairs of elements.
func table(f api.Field, op func(f api.Field, a, b int) int) [][]int {
	q := field.Size(f)
	rows := make([][]int, q)
	for a := range rows {
		rows[a] = make([]int, q)
		for b := range rows[a] {
			rows[a][b] = op(f, a, b)
		}
	}
	return rows
}

// P1.2: axioms of two elements, neutral elements, negatives and inverses.
func TestAxiomsOfPairs(t *testing.T) {
	forFields(t, func(t *testing.T, f api.Field, q int) {
		add, mul := table(f, field.Add), table(f, field.Mul)
		for a := range q {
			if add[a][0] != a || mul[a][1] != a {
				t.Errorf("%d elements: 0 or 1 is not neutral for %d", q, a)
			}
			if n := field.Neg(f, a); add[a][n] != 0 {
				t.Errorf("%d elements: %d is not the negative of %d", q, n, a)
			}
			if x, err := field.Inv(f, a); a != 0 && (err != api.OK || mul[a][x] != 1) {
				t.Errorf("%d elements: %d is not the inverse of %d", q, x, a)
			}
			for b := range q {
				if add[a][b] < 0 || add[a][b] >= q || mul[a][b] < 0 || mul[a][b] >= q {
					t.Errorf("%d elements: no elements: %d and %d", q, add[a][b], mul[a][b])
				}
				if add[a][b] != add[b][a] || mul[a][b] != mul[b][a] {
					t.Errorf("%d elements: %d and %d do not commute", q, a, b)
				}
				if d := field.Sub(f, a, b); add[d][b] != a {
					t.Errorf("%d elements: %d - %d = %d", q, a, b, d)
				}
			}
		}
	})
}

// P1.2: axioms of three elements.
func TestAxiomsOfTriples(t *testing.T) {
	forFields(t, func(t *testing.T, f api.Field, q int) {
		add, mul := table(f, field.Add), table(f, field.Mul)
		for a := range q {
			for b := range q {
				for c := range q {
					if add[add[a][b]][c] != add[a][add[b][c]] {
						t.Fatalf("%d elements: the sum of %d, %d and %d is not associative", q, a, b, c)
					}
					if mul[mul[a][b]][c] != mul[a][mul[b][c]] {
						t.Fatalf("%d elements: the product of %d, %d and %d is not associative", q, a, b, c)
					}
					if mul[a][add[b][c]] != add[mul[a][b]][mul[a][c]] {
						t.Fatalf("%d elements: %d, %d and %d are not distributive", q, a, b, c)
					}
				}
			}
		}
	})
}

func power(t *testing.T, f api.Field, a, n int) int {
	t.Helper()
	x, err := field.Pow(f, a, n)
	if err != api.OK {
		t.Fatalf("%d elements: %d to the power of %d: error %d", field.Size(f), a, n, err)
	}
	return x
}

// P1.3: sums of exponents.
func TestPowersMultiply(t *testing.T) {
	// The sum of any two of them is an integer.
	exponents := []int{math.MinInt / 2, math.MinInt/2 + 1, -65, -3, -1, 0, 1, 2, 5, 62, 64, math.MaxInt/2 - 1, math.MaxInt / 2}
	forFields(t, func(t *testing.T, f api.Field, q int) {
		for a := 1; a < q; a++ {
			for _, m := range exponents {
				for _, n := range exponents {
					if power(t, f, a, m+n) != field.Mul(f, power(t, f, a, m), power(t, f, a, n)) {
						t.Fatalf("%d elements: powers %d and %d of %d", q, m, n, a)
					}
				}
			}
		}
	})
}

// P1.3: orders divide q - 1, the power q, and powers of a primitive element.
func TestOrdersAndPowers(t *testing.T) {
	forFields(t, func(t *testing.T, f api.Field, q int) {
		for a := range q {
			if power(t, f, a, q) != a {
				t.Errorf("%d elements: the power %d of %d is another element", q, q, a)
			}
			if n := field.Order(f, a); a != 0 && (n == 0 || (q-1)%n != 0) {
				t.Errorf("%d elements: order %d of %d", q, n, a)
			}
		}
		powers := make([]int, q)
		for n := range q - 1 {
			powers[power(t, f, field.Primitive(f), n)]++
		}
		for a, times := range powers {
			if (times == 1) != (a != 0) {
				t.Errorf("%d elements: %d is a power of the primitive element %d times", q, a, times)
			}
		}
	})
}

// P1.4: the power P of a sum, and the trace.
func TestFrobenius(t *testing.T) {
	forFields(t, func(t *testing.T, f api.Field, q int) {
		times := make([]int, f.P)
		for a := range q {
			trace := field.Trace(f, a)
			if trace < 0 || trace >= f.P {
				t.Fatalf("%d elements: trace %d of %d", q, trace, a)
			}
			times[trace]++
			if field.Trace(f, power(t, f, a, f.P)) != trace {
				t.Errorf("%d elements: the traces of %d and of its power %d differ", q, a, f.P)
			}
			for b := range q {
				sum := field.Add(f, a, b)
				if power(t, f, sum, f.P) != field.Add(f, power(t, f, a, f.P), power(t, f, b, f.P)) {
					t.Errorf("%d elements: the power %d of %d + %d", q, f.P, a, b)
				}
				if field.Trace(f, sum) != field.Add(f, trace, field.Trace(f, b)) {
					t.Errorf("%d elements: the trace of %d + %d", q, a, b)
				}
			}
		}
		for trace, n := range times {
			if n != q/f.P {
				t.Errorf("%d elements: %d is the trace of %d elements", q, trace, n)
			}
		}
	})
}

// products returns the numbers, the leading 1 left out, of all products of
// degree e of two polynomials of lesser degrees. Factors can be made monic.
func products(p, e int) map[int]bool {
	found := map[int]bool{}
	monic := func(d int) [][]int {
		var l [][]int
		for n := range int(math.Round(math.Pow(float64(p), float64(d)))) {
			l = append(l, append(list(p, n, d), 1))
		}
		return l
	}
	for d := 1; d < e; d++ {
		for _, v := range monic(d) {
			for _, w := range monic(e - d) {
				found[value(p, multiply(p, v, w)[:e])] = true
			}
		}
	}
	return found
}

// P1.5.
func TestModulus(t *testing.T) {
	forFields(t, func(t *testing.T, f api.Field, q int) {
		reducible := products(f.P, f.E)
		modulus := value(f.P, f.Mod)
		if reducible[modulus] {
			t.Errorf("%d elements: the modulus %v is a product", q, f.Mod)
		}
		for n := range modulus {
			if !reducible[n] {
				t.Errorf("%d elements: %d is less than the modulus %v and no product", q, n, f.Mod)
			}
		}
	})
}

// P1.6.
func TestRefusal(t *testing.T) {
	var accepted []int
	try := func(q int) {
		f, err := field.Make(q)
		if err == api.OK {
			accepted = append(accepted, q)
		} else if err != api.ErrArg || f.P != 0 || f.E != 0 || len(f.Mod) != 0 {
			t.Errorf("Make(%d) = %v, error %d", q, f, err)
		}
	}
	for q := -300; q <= 5000; q++ {
		try(q)
	}
	for i := 13; i < bits.UintSize-1; i++ {
		for _, by := range []int{-1, 0, 1} {
			try(1<<i + by)
			try(-1<<i + by)
		}
	}
	for _, q := range []int{math.MinInt, math.MinInt + 1, math.MaxInt - 1, math.MaxInt, 1<<32 + 2, 1<<32 + 4, 1<<32 + 61} {
		try(q)
	}
	if !slices.Equal(accepted, sizes) || len(accepted) != 27 {
		t.Errorf("Make accepts %v", accepted)
	}
}
