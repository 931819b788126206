package transform_test

import (
	"math"
	"math/big"
	"math/bits"
	"math/rand"
	"slices"
	"testing"

	"plexus/api"
	"plexus/code"
	"plexus/field"
	"plexus/transform"
)

// extremes are numbers at and beyond limits.
var extremes = []int{math.MinInt, math.MinInt + 1, -64, -1, 0, 1, 2, 3, 4, 15, 16, 17, 23, 24, 25, 64, 65, 1 << 20, 1<<20 + 1, 1 << 30, 1<<30 + 1, 1 << 32, 1<<32 + 2, 1 << 62, math.MaxInt}

// sizes are the sizes of the fields of codes.
var sizes = []int{2, 3, 4, 5, 7, 8, 9, 11, 13, 16}

// isUpTo says whether q^n is at most 2^most.
func isUpTo(q, n, most int) bool {
	return new(big.Int).Exp(big.NewInt(int64(q)), big.NewInt(int64(n)), nil).Cmp(new(big.Int).Lsh(big.NewInt(1), uint(most))) <= 0
}

// allWords returns q^n for at most 2^62 words.
func allWords(q, n int) int {
	return int(new(big.Int).Exp(big.NewInt(int64(q)), big.NewInt(int64(n)), nil).Int64())
}

// forShapes runs a test for all q and n that the chapter allows.
func forShapes(test func(q, n int)) {
	for q := 2; q <= 16; q++ {
		for n := range 25 {
			test(q, n)
		}
	}
}

// forTransforms runs a test for those for which there are transforms.
func forTransforms(test func(q, n int)) {
	forShapes(func(q, n int) {
		if isUpTo(q, n, 30) {
			test(q, n)
		}
	})
}

// table has the number K_k(i) in its row k and its column i.
type table [][]*big.Int

// tables keeps those that were made by hand.
var tables = map[[2]int]table{}

// byHand returns the table for q and n: the numbers K_0(i), .., K_n(i) are the
// coefficients of (1 - z)^i (1 + (q - 1) z)^(n - i).
func byHand(q, n int) table {
	if made, is := tables[[2]int{q, n}]; is {
		return made
	}
	made := make(table, n+1)
	for i := range n + 1 {
		column := []*big.Int{big.NewInt(1)}
		for j := range n {
			if j < i {
				column = timesLinear(column, -1)
			} else {
				column = timesLinear(column, int64(q-1))
			}
		}
		for k := range made {
			made[k] = append(made[k], column[k])
		}
	}
	tables[[2]int{q, n}] = made
	return made
}

// timesLinear returns the coefficients of p times 1 + a z.
func timesLinear(p []*big.Int, a int64) []*big.Int {
	product := []*big.Int{p[0]}
	for i := range p {
		c := new(big.Int).Mul(big.NewInt(a), p[i])
		if i+1 < len(p) {
			c.Add(c, p[i+1])
		}
		product = append(product, c)
	}
	return product
}

// turnByHand returns what Turn has to return.
func turnByHand(q, n int, w []int) ([]int, api.Errno) {
	if q < 2 || q > 16 || n < 0 || n > 24 {
		return nil, api.ErrArg
	}
	if !isUpTo(q, n, 30) {
		return nil, api.ErrBig
	}
	total := new(big.Int)
	for _, count := range w {
		total.Add(total, big.NewInt(int64(count)))
	}
	if len(w) != n+1 || slices.Min(w) < 0 || total.Sign() == 0 || total.Cmp(big.NewInt(int64(allWords(q, n)))) > 0 {
		return nil, api.ErrArg
	}
	var turned []int
	for _, row := range byHand(q, n) {
		sum := new(big.Int)
		for i, number := range row {
			sum.Add(sum, new(big.Int).Mul(number, big.NewInt(int64(w[i]))))
		}
		quotient, rest := new(big.Int).DivMod(sum, total, new(big.Int))
		if quotient.Sign() < 0 || rest.Sign() != 0 {
			return nil, api.ErrNot
		}
		turned = append(turned, int(quotient.Int64()))
	}
	return turned, api.OK
}

// differ returns in how many places two words differ.
func differ(v, w []int) int {
	n := len(v)
	for i := range v {
		if v[i] == w[i] {
			n--
		}
	}
	return n
}

// distancesByHand returns the distances of words that are right, of which each
// two are looked at once.
func distancesByHand(n int, words [][]int) []api.Frac {
	counts := make([]int, n+1)
	counts[0] = len(words)
	for i, v := range words {
		for _, w := range words[:i] {
			counts[differ(v, w)] += 2
		}
	}
	var l []api.Frac
	for _, count := range counts {
		r := big.NewRat(int64(count), int64(len(words)))
		l = append(l, frac(int(r.Num().Int64()), int(r.Denom().Int64())))
	}
	return l
}

func frac(n, d int) api.Frac { return api.Frac{N: n, D: d} }

func whole(l ...int) []api.Frac {
	var fractions []api.Frac
	for _, n := range l {
		fractions = append(fractions, frac(n, 1))
	}
	return fractions
}

func exact(a api.Frac) *big.Rat { return big.NewRat(int64(a.N), int64(a.D)) }

func fits(r *big.Rat) bool {
	limit := new(big.Int).Lsh(big.NewInt(1), 62)
	return r.Num().CmpAbs(limit) <= 0 && r.Denom().Cmp(limit) <= 0
}

// isDistanceByHand says whether Turned accepts a fraction.
func isDistanceByHand(a api.Frac) bool {
	if a.N < 0 || a.N > 1<<20 || a.D < 1 || a.D > 1<<20 {
		return false
	}
	r := exact(a)
	return r.Num().Int64() == int64(a.N) && r.Denom().Int64() == int64(a.D)
}

// stage says how far a calculation gets.
type stage int

const (
	refused stage = iota
	tooManyWords
	noSum      // the sum of all distances is too big
	noTerms    // a sum of terms is
	noQuotient // a quotient is
	done
)

// sumByHand returns the sum of terms in their order, and whether nothing on the
// way is too big.
func sumByHand(terms []*big.Rat) (*big.Rat, bool) {
	sum := new(big.Rat)
	for _, term := range terms {
		sum.Add(sum, term)
		if !fits(term) || !fits(sum) {
			return nil, false
		}
	}
	return sum, true
}

// turnedByHand returns what Turned has to return, and where it stops.
func turnedByHand(q, n int, d []api.Frac) ([]api.Frac, api.Errno, stage) {
	if q < 2 || q > 16 || n < 0 || n > 24 {
		return nil, api.ErrArg, refused
	}
	if !isUpTo(q, n, 30) {
		return nil, api.ErrBig, tooManyWords
	}
	isZero := !slices.ContainsFunc(d, func(a api.Frac) bool { return a.N != 0 })
	if len(d) != n+1 || isZero || slices.ContainsFunc(d, func(a api.Frac) bool { return !isDistanceByHand(a) }) {
		return nil, api.ErrArg, refused
	}
	var terms []*big.Rat
	for _, a := range d {
		terms = append(terms, exact(a))
	}
	total, is := sumByHand(terms)
	if !is {
		return nil, api.ErrBig, noSum
	}
	var turned []api.Frac
	for _, row := range byHand(q, n) {
		var terms []*big.Rat
		for i, number := range row {
			terms = append(terms, new(big.Rat).Mul(exact(d[i]), new(big.Rat).SetInt(number)))
		}
		sum, is := sumByHand(terms)
		if !is {
			return nil, api.ErrBig, noTerms
		}
		if sum.Quo(sum, total); !fits(sum) {
			return nil, api.ErrBig, noQuotient
		}
		turned = append(turned, frac(int(sum.Num().Int64()), int(sum.Denom().Int64())))
	}
	return turned, api.OK, done
}

// parted has the weights of words that are made of parts, one behind the other,
// and those of the words that are orthogonal to all of them, modulo q: parts of
// one place alone that have all symbols, or none but 0, and longer ones that
// have one symbol in all places, or any symbols with the sum 0.
type parted struct{ weights, dual []int }

// drawnParts returns the weights of words of length n that are made of drawn
// parts.
func drawnParts(source *rand.Rand, q, n int) parted {
	made := parted{[]int{1}, []int{1}}
	for n > 0 {
		m := 1 + source.Intn(n)
		if source.Intn(2) == 0 {
			m = 1
		}
		n -= m
		one, other := constantWeights(q, m), zeroSumWeights(q, m)
		if source.Intn(2) == 0 {
			one, other = other, one
		}
		made = parted{convolved(made.weights, one), convolved(made.dual, other)}
	}
	return made
}

// constantWeights returns the weights of the words of m equal symbols.
func constantWeights(q, m int) []int {
	w := make([]int, m+1)
	w[0], w[m] = 1, q-1
	return w
}

// zeroSumWeights returns the weights of the words of length m whose sum is 0
// modulo q. The last symbol other than 0 follows from the others, unless it would
// be 0.
func zeroSumWeights(q, m int) []int {
	w, zeroSums := make([]int, m+1), 1
	for j := range w {
		if j > 0 {
			zeroSums = powerByHand(q-1, j-1) - zeroSums
		}
		w[j] = int(new(big.Int).Binomial(int64(m), int64(j)).Int64()) * zeroSums
	}
	return w
}

func powerByHand(base, n int) int {
	if n < 0 {
		return 0
	}
	return allWords(base, n)
}

// convolved returns the weights of words that are made of two parts.
func convolved(a, b []int) []int {
	w := make([]int, len(a)+len(b)-1)
	for i, m := range a {
		for j, n := range b {
			w[i+j] += m * n
		}
	}
	return w
}

// allWeights returns the numbers of all words of length n of each weight.
func allWeights(q, n int) []int {
	w := []int{1}
	for range n {
		w = convolved(w, []int{1, q - 1})
	}
	return w
}

// summing returns the lists of count numbers of at least 0 whose sum is at most
// most.
func summing(count, most int) [][]int {
	if count == 0 {
		return [][]int{nil}
	}
	var l [][]int
	for first := range most + 1 {
		for _, rest := range summing(count-1, most-first) {
			l = append(l, append([]int{first}, rest...))
		}
	}
	return l
}

// everyWord returns all words of length n.
func everyWord(q, n int) [][]int {
	l := [][]int{{}}
	for range n {
		var longer [][]int
		for _, w := range l {
			for symbol := range q {
				longer = append(longer, append(slices.Clone(w), symbol))
			}
		}
		l = longer
	}
	return l
}

// listing is a list of words.
type listing struct {
	q, n  int
	words [][]int
}

// everyList returns the lists of one to most words of length n.
func everyList(q, n, most int) []listing {
	all := everyWord(q, n)
	var l []listing
	before := [][][]int{nil}
	for range most {
		var longer [][][]int
		for _, words := range before {
			for _, w := range all {
				longer = append(longer, append(slices.Clone(words), w))
			}
		}
		for _, words := range longer {
			l = append(l, listing{q, n, words})
		}
		before = longer
	}
	return l
}

// everySet returns the sets of words of length n, but for that without words.
func everySet(q, n int) []listing {
	all := everyWord(q, n)
	var l []listing
	for set := 1; set < 1<<len(all); set++ {
		var words [][]int
		for i, w := range all {
			if set>>i&1 == 1 {
				words = append(words, w)
			}
		}
		l = append(l, listing{q, n, words})
	}
	return l
}

// smallLists returns lists of few words, and sets of any words, over few symbols.
func smallLists() []listing {
	l := slices.Concat(everySet(2, 1), everySet(2, 2), everySet(2, 3), everySet(3, 1), everySet(3, 2), everySet(4, 1), everySet(5, 1))
	for _, s := range [][3]int{{2, 0, 5}, {16, 0, 2}, {2, 1, 4}, {2, 2, 4}, {2, 3, 3}, {2, 4, 2}, {3, 1, 4}, {3, 2, 3}, {4, 1, 3}, {4, 2, 2}, {6, 1, 3}, {16, 1, 2}} {
		l = append(l, everyList(s[0], s[1], s[2])...)
	}
	return l
}

// drawnWord returns a word of length n. Many of its symbols are 0, in some words.
func drawnWord(source *rand.Rand, q, n int) []int {
	w := make([]int, n)
	dense := source.Intn(4)
	for i := range w {
		if source.Intn(4) <= dense {
			w[i] = source.Intn(q)
		}
	}
	return w
}

// drawnList returns a list of words, some of which may be there several times.
func drawnList(source *rand.Rand, q, n, count int) listing {
	l := listing{q: q, n: n}
	for len(l.words) < count {
		if len(l.words) > 0 && source.Intn(8) == 0 {
			l.words = append(l.words, slices.Clone(l.words[source.Intn(len(l.words))]))
		} else {
			l.words = append(l.words, drawnWord(source, q, n))
		}
	}
	return l
}

// drawnSums returns the sums of multiples, modulo q, of drawn words of length n,
// as long as there are at most 64, with symbols that are then exchanged at each
// place.
func drawnSums(source *rand.Rand, q, n int) listing {
	sums := [][]int{make([]int, n)}
	for len(sums)*q <= 64 && source.Intn(8) > 0 {
		row := drawnWord(source, q, n)
		var more [][]int
		for _, w := range sums {
			for range q {
				more = append(more, w)
				w = slices.Clone(w)
				for i := range w {
					w[i] = (w[i] + row[i]) % q
				}
			}
		}
		sums = more
	}
	return disguised(source, q, n, sums)
}

// disguised returns words with symbols that are exchanged at each place, in
// another order.
func disguised(source *rand.Rand, q, n int, words [][]int) listing {
	l := listing{q: q, n: n}
	for range words {
		l.words = append(l.words, make([]int, n))
	}
	for i := range n {
		symbols := source.Perm(q)
		for j, w := range words {
			l.words[j][i] = symbols[w[i]]
		}
	}
	source.Shuffle(len(words), func(i, j int) { l.words[i], l.words[j] = l.words[j], l.words[i] })
	return l
}

// withSum returns words with a last symbol that makes their sums 0 modulo q.
func withSum(q int, words [][]int) [][]int {
	var l [][]int
	for _, w := range words {
		sum := 0
		for _, symbol := range w {
			sum += symbol
		}
		l = append(l, append(slices.Clone(w), (q-sum%q)%q))
	}
	return l
}

// affine returns the words of length 2^m of the values of all polynomials of
// degree at most 1 in m variables over two elements. Any three places have all
// combinations equally often.
func affine(m int) [][]int {
	var l [][]int
	for coefficients := range uint(2) << m {
		w := make([]int, 1<<m)
		for x := range w {
			w[x] = bits.OnesCount(coefficients&uint(2*x+1)) % 2
		}
		l = append(l, w)
	}
	return l
}

// evenLists returns lists in which some places have all combinations equally
// often, and such lists with a symbol that is changed.
func evenLists() []listing {
	source := rand.New(rand.NewSource(17))
	var l []listing
	add := func(q int, words [][]int) {
		n := len(words[0])
		for len(words) <= 64 {
			for range 4 {
				l = append(l, disguised(source, q, n, words))
			}
			changed := disguised(source, q, n, words)
			w := changed.words[source.Intn(len(words))]
			i := source.Intn(n)
			w[i] = (w[i] + 1) % q
			l = append(l, changed)
			words = slices.Concat(words, words)
		}
	}
	for q := 2; q <= 16; q++ {
		for t := 1; allWords(q, t) <= 64; t++ {
			add(q, everyWord(q, t))
			add(q, withSum(q, everyWord(q, t)))
		}
	}
	for m := 2; m <= 4; m++ {
		add(2, affine(m))
	}
	return l
}

// drawnLists returns lists for all q and n: of one word and of 64, and of any
// numbers of them, and such sums.
func drawnLists() []listing {
	source := rand.New(rand.NewSource(15))
	var l []listing
	forShapes(func(q, n int) {
		l = append(l, drawnList(source, q, n, 1), drawnList(source, q, n, 64))
		for range 3 {
			l = append(l, drawnList(source, q, n, 1+source.Intn(64)), drawnSums(source, q, n))
		}
	})
	return l
}

// drawnCode returns a code of length n that is made of count drawn rows.
func drawnCode(t *testing.T, source *rand.Rand, q, n, count int) api.Code {
	t.Helper()
	var rows [][]int
	for range count {
		rows = append(rows, drawnWord(source, q, n))
	}
	c, err := code.Make(q, n, rows)
	if err != api.OK {
		t.Fatalf("no code of %v: error %d", rows, err)
	}
	return c
}

// forCodes runs a test for drawn codes, with some for each field, each length and
// each number of rows with at most most words.
func forCodes(t *testing.T, most int, test func(c api.Code)) {
	source := rand.New(rand.NewSource(16))
	for _, q := range sizes {
		for n := 1; n <= 24; n++ {
			for k, words := 0, 1; k <= n && words <= most; k, words = k+1, words*q {
				for range 2 {
					test(drawnCode(t, source, q, n, k))
				}
			}
		}
	}
}

// weightsByHand returns the weights of a code, whose words are made row by row,
// and counted when they are complete.
func weightsByHand(t *testing.T, c api.Code) []int {
	t.Helper()
	f, err := field.Make(c.Q)
	if err != api.OK {
		t.Fatalf("no field with %d elements: error %d", c.Q, err)
	}
	words := [][]int{make([]int, c.N)}
	for _, row := range c.G {
		var more [][]int
		for a := range c.Q {
			multiple := make([]int, c.N)
			for i := range multiple {
				multiple[i] = field.Mul(f, a, row[i])
			}
			for _, w := range words {
				sum := slices.Clone(w)
				for i := range sum {
					sum[i] = field.Add(f, sum[i], multiple[i])
				}
				more = append(more, sum)
			}
		}
		words = more
	}
	counts := make([]int, c.N+1)
	for _, w := range words {
		counts[differ(w, make([]int, c.N))]++
	}
	return counts
}

// checkTurn fails the test unless w is turned into want.
func checkTurn(t *testing.T, q, n int, w, want []int) {
	t.Helper()
	if got, err := transform.Turn(q, n, w); err != api.OK || !slices.Equal(got, want) {
		t.Errorf("q = %d, n = %d: %v is turned into %v, error %d, not %v", q, n, w, got, err, want)
	}
}
