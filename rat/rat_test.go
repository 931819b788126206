package rat_test

import (
	"math"
	"math/big"
	"math/rand"
	"slices"
	"testing"

	"plexus/api"
	"plexus/rat"
)

const most = 1 << 62

type operation func(a, b api.Frac) (api.Frac, api.Errno)

func frac(n, d int) api.Frac { return api.Frac{N: n, D: d} }

func exact(a api.Frac) *big.Rat { return big.NewRat(int64(a.N), int64(a.D)) }

// fitting returns the valid fraction for r, which is made in lowest terms by
// package big; ok is false if there is none.
func fitting(r *big.Rat) (a api.Frac, ok bool) {
	limit := big.NewInt(most)
	if r.Num().CmpAbs(limit) > 0 || r.Denom().Cmp(limit) > 0 {
		return api.Frac{}, false
	}
	return frac(int(r.Num().Int64()), int(r.Denom().Int64())), true
}

// check compares a result with the number r that it should be.
func check(t *testing.T, what string, r *big.Rat, got api.Frac, err api.Errno) {
	t.Helper()
	want, ok := fitting(r)
	wantErr := api.OK
	if !ok {
		wantErr = api.ErrBig
	}
	if got != want || err != wantErr {
		t.Errorf("%s is %s: %v, error %d", what, r.RatString(), got, err)
	}
}

// parts are numbers with many common factors, or with none, of all sizes up to
// the limit, and at its border.
var parts = []int{1, 2, 3, 4, 5, 6, 7, 12, 30, 60, 210, 720720, 1<<31 - 1, 1 << 31, 1<<31 + 1, 1<<32 - 1, 1 << 32, 1<<32 + 1, 3 << 40, 1 << 61, most / 3, most / 5, most/2 + 1, most - 3, most - 2, most - 1, most}

// borders are integers at which something could run over.
var borders = []int{math.MinInt, math.MinInt + 1, math.MinInt + 2, -most - 2, -most - 1, -most, -most + 1, -1 << 32, -6, -4, -2, -1, 0, 1, 2, 3, 4, 6, 1 << 32, most - 1, most, most + 1, most + 2, math.MaxInt - 1, math.MaxInt}

// edges returns the valid fractions with these parts, and 0.
func edges() []api.Frac {
	l := []api.Frac{frac(0, 1)}
	for _, n := range parts {
		for _, d := range parts {
			if rat.Valid(frac(n, d)) {
				l = append(l, frac(n, d), frac(-n, d))
			}
		}
	}
	return l
}

// small returns the valid fractions with parts of at most n.
func small(n int) []api.Frac {
	var l []api.Frac
	for d := 1; d <= n; d++ {
		for k := -n; k <= n; k++ {
			if rat.Valid(frac(k, d)) {
				l = append(l, frac(k, d))
			}
		}
	}
	return l
}

// drawn returns fractions whose parts have any number of bits, the same ones in
// each run.
func drawn(count int) []api.Frac {
	source := rand.New(rand.NewSource(2))
	l := make([]api.Frac, 0, count)
	for len(l) < count {
		n, d := source.Int63n(most)>>source.Intn(62)+1, source.Int63n(most)>>source.Intn(62)+1
		if source.Intn(2) == 0 {
			n = -n
		}
		if a, ok := fitting(big.NewRat(n, d)); ok {
			l = append(l, a)
		}
	}
	return l
}

// samples returns fractions of all sizes, few enough for all triples of them.
func samples() []api.Frac {
	return append(drawn(40), frac(0, 1), frac(1, 1), frac(-1, 1), frac(1, 2), frac(-2, 3), frac(7, 6), frac(most, 1), frac(-most, 1), frac(1, most), frac(-1, most), frac(most-1, most))
}

// forPairs runs a test for many pairs of valid fractions.
func forPairs(test func(a, b api.Frac)) {
	pairs := func(l, m []api.Frac) {
		for _, a := range l {
			for _, b := range m {
				test(a, b)
			}
		}
	}
	pairs(edges(), samples())
	pairs(samples(), edges())
	pairs(small(9), small(9))
	pairs(drawn(300), drawn(300))
}

// P2.1: Valid.
func TestValid(t *testing.T) {
	for _, a := range []api.Frac{frac(0, 1), frac(1, 1), frac(-1, 1), frac(-3, 2), frac(2, 3), frac(most, 1), frac(-most, 1), frac(1, most), frac(-1, most), frac(most-1, most), frac(most, most-1), frac(-most, most-1)} {
		if !rat.Valid(a) {
			t.Errorf("not valid: %v", a)
		}
	}
	for _, a := range []api.Frac{{}, frac(1, 0), frac(0, 2), frac(0, -1), frac(1, -2), frac(-1, -2), frac(2, 4), frac(-2, 2), frac(15, 35), frac(most, most), frac(most, 2), frac(most+1, 1), frac(-most-1, 1), frac(1, most+1), frac(0, most), frac(math.MinInt, 1), frac(math.MinInt, 3), frac(math.MaxInt, 2), frac(1, math.MinInt), frac(1, math.MaxInt), frac(0, math.MinInt), frac(math.MinInt, math.MinInt)} {
		if rat.Valid(a) {
			t.Errorf("valid: %v", a)
		}
	}
}

// P2.1: Valid accepts all arguments, and follows its definition.
func TestValidAtBorders(t *testing.T) {
	for _, n := range borders {
		for _, d := range borders {
			want := false
			if d > 0 {
				a, ok := fitting(big.NewRat(int64(n), int64(d)))
				want = ok && a == frac(n, d)
			}
			if rat.Valid(frac(n, d)) != want {
				t.Errorf("Valid for %d / %d: %t", n, d, !want)
			}
		}
	}
}

// P2.1, P2.4 and P2.7: Make.
func TestMake(t *testing.T) {
	numbers := slices.Concat(borders, parts)
	for n := -40; n <= 40; n++ {
		numbers = append(numbers, n)
	}
	for _, n := range numbers {
		for _, d := range numbers {
			got, err := rat.Make(n, d)
			if d != 0 {
				check(t, "Make", new(big.Rat).SetFrac(big.NewInt(int64(n)), big.NewInt(int64(d))), got, err)
			} else if got != frac(0, 0) || err != api.ErrZero {
				t.Errorf("Make(%d, 0) = %v, error %d", n, got, err)
			}
		}
	}
}

// P2.1: the examples of the chapter for operations.
func TestExamples(t *testing.T) {
	for i, c := range []struct {
		op   operation
		a, b api.Frac
		want api.Frac
		err  api.Errno
	}{
		{rat.Add, frac(1, 6), frac(1, 10), frac(4, 15), api.OK},
		{rat.Div, frac(3, 4), frac(-9, 2), frac(-1, 6), api.OK},
		{rat.Add, frac(most, 1), frac(1, 1), frac(0, 0), api.ErrBig},
		{rat.Add, frac(most, 1), frac(-1, 3), frac(0, 0), api.ErrBig},
		{rat.Mul, frac(most, 1), frac(1, most), frac(1, 1), api.OK},
	} {
		if got, err := c.op(c.a, c.b); got != c.want || err != c.err {
			t.Errorf("example %d: %v, error %d", i, got, err)
		}
	}
	if a, err := rat.Make(6, -4); a != frac(-3, 2) || err != api.OK {
		t.Errorf("Make(6, -4) = %v, error %d", a, err)
	}
	if a, err := rat.Make(0, 5); a != frac(0, 1) || err != api.OK {
		t.Errorf("Make(0, 5) = %v, error %d", a, err)
	}
	if a, err := rat.Make(1, 0); a != frac(0, 0) || err != api.ErrZero {
		t.Errorf("Make(1, 0) = %v, error %d", a, err)
	}
}

// P2.1, P2.4 and P2.7: sums, differences, products and quotients.
func TestOperations(t *testing.T) {
	forPairs(func(a, b api.Frac) {
		x, y := exact(a), exact(b)
		got, err := rat.Add(a, b)
		check(t, rat.Text(a)+" + "+rat.Text(b), new(big.Rat).Add(x, y), got, err)
		got, err = rat.Sub(a, b)
		check(t, rat.Text(a)+" - "+rat.Text(b), new(big.Rat).Sub(x, y), got, err)
		got, err = rat.Mul(a, b)
		check(t, rat.Text(a)+" times "+rat.Text(b), new(big.Rat).Mul(x, y), got, err)
		if b.N == 0 {
			return
		}
		got, err = rat.Div(a, b)
		check(t, rat.Text(a)+" by "+rat.Text(b), new(big.Rat).Quo(x, y), got, err)
	})
}

// P2.1: Div by 0.
func TestDivisionByZero(t *testing.T) {
	for _, a := range edges() {
		if got, err := rat.Div(a, frac(0, 1)); got != frac(0, 0) || err != api.ErrZero {
			t.Errorf("%v by 0: %v, error %d", a, got, err)
		}
	}
}

// P2.2: the laws of two numbers.
func TestSumsAndProductsCommute(t *testing.T) {
	forPairs(func(a, b api.Frac) {
		sum, err := rat.Add(a, b)
		if other, err2 := rat.Add(b, a); sum != other || err != err2 {
			t.Errorf("%v + %v does not commute", a, b)
		}
		if back, err2 := rat.Sub(sum, b); err == api.OK && (back != a || err2 != api.OK) {
			t.Errorf("%v + %v - %v = %v, error %d", a, b, b, back, err2)
		}
		product, err := rat.Mul(a, b)
		if other, err2 := rat.Mul(b, a); product != other || err != err2 {
			t.Errorf("%v times %v does not commute", a, b)
		}
		if err != api.OK || b.N == 0 {
			return
		}
		if back, err := rat.Div(product, b); back != a || err != api.OK {
			t.Errorf("%v times %v by %v = %v, error %d", a, b, b, back, err)
		}
	})
}

// attempt calculates, and remembers if something did not fit.
type attempt struct{ failed bool }

func (x *attempt) do(op operation, a, b api.Frac) api.Frac {
	if x.failed {
		return api.Frac{}
	}
	c, err := op(a, b)
	x.failed = err != api.OK
	return c
}

// P2.2: the laws of three numbers.
func TestSumsAndProductsAssociate(t *testing.T) {
	compared := 0
	same := func(what string, left, right func(x *attempt) api.Frac) {
		var x attempt
		a, b := left(&x), right(&x)
		if x.failed {
			return
		}
		compared++
		if a != b {
			t.Errorf("%s: %v and %v", what, a, b)
		}
	}
	laws := func(a, b, c api.Frac) {
		same("associative sum",
			func(x *attempt) api.Frac { return x.do(rat.Add, x.do(rat.Add, a, b), c) },
			func(x *attempt) api.Frac { return x.do(rat.Add, a, x.do(rat.Add, b, c)) })
		same("associative product",
			func(x *attempt) api.Frac { return x.do(rat.Mul, x.do(rat.Mul, a, b), c) },
			func(x *attempt) api.Frac { return x.do(rat.Mul, a, x.do(rat.Mul, b, c)) })
		same("distributive",
			func(x *attempt) api.Frac { return x.do(rat.Mul, a, x.do(rat.Add, b, c)) },
			func(x *attempt) api.Frac { return x.do(rat.Add, x.do(rat.Mul, a, b), x.do(rat.Mul, a, c)) })
	}
	for _, l := range [][]api.Frac{samples(), small(4)} {
		for _, a := range l {
			for _, b := range l {
				for _, c := range l {
					laws(a, b, c)
				}
			}
		}
	}
	if compared < 30000 {
		t.Errorf("only %d results fit", compared)
	}
}

// P2.1 and P2.3: Cmp.
func TestCmp(t *testing.T) {
	forPairs(func(a, b api.Frac) {
		if got, want := rat.Cmp(a, b), exact(a).Cmp(exact(b)); got != want {
			t.Errorf("%v and %v: %d, not %d", a, b, got, want)
		}
	})
}

// P2.3: a total order has one place for each fraction.
func TestOrderIsTotal(t *testing.T) {
	l := append(edges(), drawn(500)...)
	slices.SortFunc(l, rat.Cmp)
	l = slices.Compact(l)
	for i, a := range l {
		for k, b := range l {
			want := 0
			if i < k {
				want = -1
			} else if i > k {
				want = 1
			}
			if rat.Cmp(a, b) != want {
				t.Fatalf("%v and %v: %d, not %d", a, b, rat.Cmp(a, b), want)
			}
		}
	}
}

// P2.3: sums, and products with positive fractions, keep the order.
func TestOrderIsKept(t *testing.T) {
	l := append(samples(), small(5)...)
	for _, a := range l {
		for _, b := range l {
			for _, c := range l {
				var sums attempt
				if x, y := sums.do(rat.Add, a, c), sums.do(rat.Add, b, c); !sums.failed && rat.Cmp(x, y) != rat.Cmp(a, b) {
					t.Errorf("%v and %v are in another order than their sums with %v", a, b, c)
				}
				var products attempt
				if x, y := products.do(rat.Mul, a, c), products.do(rat.Mul, b, c); c.N > 0 && !products.failed && rat.Cmp(x, y) != rat.Cmp(a, b) {
					t.Errorf("%v and %v are in another order than their products with %v", a, b, c)
				}
			}
		}
	}
}

// P2.4: fractions that are equal as numbers are equal, whatever they come from.
func TestLowestTerms(t *testing.T) {
	found := map[string]api.Frac{}
	note := func(a api.Frac, err api.Errno) {
		if err != api.OK {
			return
		}
		if !rat.Valid(a) {
			t.Fatalf("not valid: %v", a)
		}
		number := exact(a).String()
		if b, ok := found[number]; ok && a != b {
			t.Fatalf("%v and %v are equal as numbers", a, b)
		}
		found[number] = a
	}
	for _, a := range append(small(12), samples()...) {
		note(rat.Parse(rat.Text(a)))
		for _, b := range append(small(12), samples()...) {
			note(rat.Make(a.N, b.D))
			note(rat.Add(a, b))
			note(rat.Sub(a, b))
			note(rat.Mul(a, b))
			note(rat.Div(a, b))
		}
	}
}

// P2.1 and P2.5: Floor and Ceil.
func TestRounding(t *testing.T) {
	one := big.NewRat(1, 1)
	for _, a := range slices.Concat(edges(), small(20), drawn(1000)) {
		floor, ceil := rat.Floor(a), rat.Ceil(a)
		below, above := new(big.Rat).SetInt64(int64(floor)), new(big.Rat).SetInt64(int64(ceil))
		if below.Cmp(exact(a)) > 0 || new(big.Rat).Add(below, one).Cmp(exact(a)) <= 0 {
			t.Errorf("floor of %v: %d", a, floor)
		}
		if above.Cmp(exact(a)) < 0 || new(big.Rat).Sub(above, one).Cmp(exact(a)) >= 0 {
			t.Errorf("ceil of %v: %d", a, ceil)
		}
		if (a.D == 1) != (floor == ceil) || ceil-floor > 1 {
			t.Errorf("floor and ceil of %v: %d and %d", a, floor, ceil)
		}
	}
	if a := frac(-3, 2); rat.Floor(a) != -2 || rat.Ceil(a) != -1 {
		t.Errorf("floor and ceil of -3/2: %d and %d", rat.Floor(a), rat.Ceil(a))
	}
}

// P2.1 and P2.6: Text, and Parse of it.
func TestTexts(t *testing.T) {
	for s, a := range map[string]api.Frac{
		"0": frac(0, 1), "5": frac(5, 1), "-3/2": frac(-3, 2), "1/10": frac(1, 10), "-100": frac(-100, 1), "907/1000": frac(907, 1000),
		"4611686018427387904": frac(most, 1), "-4611686018427387904/4611686018427387903": frac(-most, most-1), "1/4611686018427387904": frac(1, most),
	} {
		if text := rat.Text(a); text != s {
			t.Errorf("text of %v: %q", a, text)
		}
	}
	for _, a := range slices.Concat(edges(), small(20), drawn(1000)) {
		text := rat.Text(a)
		if want := exact(a).RatString(); text != want {
			t.Errorf("text of %v: %q", a, text)
		}
		if b, err := rat.Parse(text); b != a || err != api.OK {
			t.Errorf("Parse(%q) = %v, error %d", text, b, err)
		}
	}
}

// parsed returns what Parse has to return. Package big reads more forms, but
// writes one of them.
func parsed(s string) (api.Frac, api.Errno) {
	if r, ok := new(big.Rat).SetString(s); ok && r.RatString() == s {
		if a, ok := fitting(r); ok {
			return a, api.OK
		}
	}
	return api.Frac{}, api.ErrForm
}

// P2.6: of all short strings of these characters, Parse accepts texts alone.
func TestParseRefuses(t *testing.T) {
	accepted := 0
	var try func(s string)
	try = func(s string) {
		want, wantErr := parsed(s)
		got, err := rat.Parse(s)
		if got != want || err != wantErr {
			t.Errorf("Parse(%q) = %v, error %d", s, got, err)
		}
		if err == api.OK {
			accepted++
		}
		if len(s) == 5 {
			return
		}
		for _, c := range "0126/-+ .e_x\x00" {
			try(s + string(c))
		}
	}
	try("")
	if accepted < 300 {
		t.Errorf("only %d strings are accepted", accepted)
	}
}

// P2.6 and P2.7: long strings, numbers at the limit, and bytes that are no
// characters.
func TestParseRefusesLongStrings(t *testing.T) {
	zeros := string(slices.Repeat([]byte("0"), 100000))
	l := []string{
		"4611686018427387905", "-4611686018427387905", "1/4611686018427387905", "-1/4611686018427387905", "4611686018427387904/4611686018427387904",
		"9223372036854775807", "9223372036854775808", "-9223372036854775808", "-9223372036854775809", "18446744073709551615", "18446744073709551616", "18446744073709551617", "18446744073709551616/3", "3/18446744073709551617", "46116860184273879040", "92233720368547758080",
		zeros, "1" + zeros, "-" + zeros + "1", "1/" + zeros, "1/" + zeros + "3", "1/3" + zeros,
		"1/2/3", "1//2", "/", "//", "-/2", "--1", "1/-2", "-1/-2", "1/+2", "1 /2", "1/ 2", "1\n", "\t1", "1/2\x00",
		"\xff", "1\xff", "1/\xff", "½", "−1", "１", "1⁄2", "٣", "inf", "NaN", "0b1", "0o7", "0x1", "1e1", "1.0", "1,000", "1_000",
	}
	for _, s := range l {
		if a, err := rat.Parse(s); a != frac(0, 0) || err != api.ErrForm {
			t.Errorf("Parse of %d bytes %.30q = %v, error %d", len(s), s, a, err)
		}
	}
}

// P2.7: results at the limit and directly behind it, of fractions for which
// numbers on the way are greater.
func TestLimits(t *testing.T) {
	for _, by := range []int64{-2, -1, 0, 1, 2} {
		border := new(big.Int).Add(big.NewInt(most), big.NewInt(by))
		for _, r := range []*big.Rat{
			new(big.Rat).SetInt(border),
			new(big.Rat).SetFrac(border, big.NewInt(3)),
			new(big.Rat).SetFrac(big.NewInt(1), border),
			new(big.Rat).SetFrac(big.NewInt(most-5), border),
		} {
			checkOperationsFor(t, r)
			checkOperationsFor(t, new(big.Rat).Neg(r))
		}
	}
}

// checkOperationsFor checks operations whose result is r.
func checkOperationsFor(t *testing.T, r *big.Rat) {
	t.Helper()
	for _, a := range append(edges(), drawn(300)...) {
		if b, ok := fitting(new(big.Rat).Sub(r, exact(a))); ok {
			got, err := rat.Add(a, b)
			check(t, rat.Text(a)+" + "+rat.Text(b), r, got, err)
		}
		if b, ok := fitting(new(big.Rat).Sub(exact(a), r)); ok {
			got, err := rat.Sub(a, b)
			check(t, rat.Text(a)+" - "+rat.Text(b), r, got, err)
		}
		if a.N == 0 {
			continue
		}
		if b, ok := fitting(new(big.Rat).Quo(r, exact(a))); ok {
			got, err := rat.Mul(a, b)
			check(t, rat.Text(a)+" times "+rat.Text(b), r, got, err)
		}
		if b, ok := fitting(new(big.Rat).Quo(exact(a), r)); ok {
			got, err := rat.Div(a, b)
			check(t, rat.Text(a)+" by "+rat.Text(b), r, got, err)
		}
	}
}

// P1: nothing panics or runs on, whatever the arguments are. B6 holds since all
// of them are values.
func TestNothingPanics(t *testing.T) {
	var l []api.Frac
	for _, n := range borders {
		for _, d := range borders {
			l = append(l, frac(n, d))
		}
	}
	for _, a := range l {
		rat.Make(a.N, a.D)
		rat.Valid(a)
		rat.Floor(a)
		rat.Ceil(a)
		rat.Parse(rat.Text(a))
		for _, b := range l {
			rat.Add(a, b)
			rat.Sub(a, b)
			rat.Mul(a, b)
			rat.Div(a, b)
			rat.Cmp(a, b)
		}
	}
}
