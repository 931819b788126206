package transform_test

import (
	"math/big"
	"math/rand"
	"slices"
	"testing"

	"plexus/api"
	"plexus/transform"
)

// P15.1: the examples of the chapter.
func TestExamples(t *testing.T) {
	for k, row := range map[int][]int{1: {3, 1, -1, -3}, 2: {3, -1, -1, 3}} {
		for i, want := range row {
			if got, err := transform.Krawtchouk(2, 3, k, i); got != want || err != api.OK {
				t.Errorf("K_%d(%d) = %d, error %d", k, i, got, err)
			}
		}
	}
	checkTurn(t, 2, 3, []int{1, 0, 0, 1}, []int{1, 0, 3, 0})
	checkTurn(t, 2, 7, []int{1, 0, 0, 7, 7, 0, 0, 1}, []int{1, 0, 0, 0, 7, 0, 0, 0})
	d, err := transform.Distribution(2, 2, [][]int{{0, 0}, {0, 1}})
	if err != api.OK || !slices.Equal(d, whole(1, 1, 0)) {
		t.Errorf("distances: %v, error %d", d, err)
	}
	if turned, err := transform.Turned(2, 2, d); err != api.OK || !slices.Equal(turned, whole(1, 1, 0)) {
		t.Errorf("transform: %v, error %d", turned, err)
	}
}

// P15.1 (O1): all numbers that there are, and those that are too big.
func TestKrawtchouk(t *testing.T) {
	many, few := 0, 0
	forShapes(func(q, n int) {
		isFew := isUpTo(q, n, 62)
		for k, row := range byHand(q, n) {
			for i, number := range row {
				got, err := transform.Krawtchouk(q, n, k, i)
				if !isFew {
					many++
					if got != 0 || err != api.ErrBig {
						t.Errorf("q = %d, n = %d: K_%d(%d) = %d, error %d", q, n, k, i, got, err)
					}
					continue
				}
				few++
				if !number.IsInt64() || int64(got) != number.Int64() || err != api.OK {
					t.Errorf("q = %d, n = %d: K_%d(%d) = %d, error %d, not %d", q, n, k, i, got, err, number)
				}
			}
		}
	})
	if many < 10000 || few < 10000 {
		t.Errorf("%d numbers are too big, and %d are not", many, few)
	}
}

// P15.1 (O1): the numbers follow the formula of the chapter.
func TestFormula(t *testing.T) {
	forTransforms(func(q, n int) {
		for k := range n + 1 {
			for i := range n + 1 {
				want := new(big.Int)
				for j := range k + 1 {
					term := big.NewInt(int64(1 - 2*(j%2)))
					term.Mul(term, new(big.Int).Exp(big.NewInt(int64(q-1)), big.NewInt(int64(k-j)), nil))
					term.Mul(term, subsets(i, j))
					want.Add(want, term.Mul(term, subsets(n-i, k-j)))
				}
				if got, err := transform.Krawtchouk(q, n, k, i); int64(got) != want.Int64() || err != api.OK {
					t.Errorf("q = %d, n = %d: K_%d(%d) = %d, error %d, not %d", q, n, k, i, got, err, want)
				}
			}
		}
	})
}

// subsets returns the number of k-subsets of n elements.
func subsets(n, k int) *big.Int {
	if k > n {
		return new(big.Int)
	}
	return new(big.Int).Binomial(int64(n), int64(k))
}

// P15.1 (O1): the numbers that there are not.
func TestKrawtchoukIsRefused(t *testing.T) {
	numbers := slices.Concat(extremes, []int{5, 22, 26})
	for _, q := range numbers {
		for _, n := range numbers {
			for _, k := range numbers {
				for _, i := range numbers {
					want := api.OK
					switch {
					case q < 2 || q > 16 || n < 0 || n > 24 || k < 0 || k > n || i < 0 || i > n:
						want = api.ErrArg
					case !isUpTo(q, n, 62):
						want = api.ErrBig
					}
					if got, err := transform.Krawtchouk(q, n, k, i); err != want || err != api.OK && got != 0 {
						t.Errorf("Krawtchouk(%d, %d, %d, %d) = %d, error %d, not %d", q, n, k, i, got, err, want)
					}
				}
			}
		}
	}
}

// turns counts what became of weights.
type turns map[api.Errno]int

// check fails the test unless Turn does what it has to.
func (c turns) check(t *testing.T, q, n int, w []int) {
	t.Helper()
	want, wantErr := turnByHand(q, n, w)
	got, err := transform.Turn(q, n, w)
	if err != wantErr || !slices.Equal(got, want) {
		t.Errorf("Turn(%d, %d, %v) = %v, error %d, not %v, error %d", q, n, w, got, err, want, wantErr)
	}
	c[err]++
}

// P15.1 (O2): all small weights.
func TestSmallTurns(t *testing.T) {
	counts := turns{}
	for _, s := range [][2]int{{2, 0}, {2, 1}, {2, 2}, {2, 3}, {2, 4}, {3, 0}, {3, 1}, {3, 2}, {3, 3}, {4, 1}, {4, 2}, {5, 1}, {6, 1}, {6, 2}, {16, 0}, {16, 1}} {
		for _, w := range summing(s[1]+1, allWords(s[0], s[1])+1) {
			counts.check(t, s[0], s[1], w)
		}
	}
	if counts[api.OK] < 300 || counts[api.ErrNot] < 10000 || counts[api.ErrArg] < 10000 {
		t.Errorf("there were %v", counts)
	}
}

// P15.1 (O2): weights of words that are made of parts are turned into those of
// the words that are orthogonal to them, for all q and n for which there are
// transforms.
func TestTurn(t *testing.T) {
	source, counts := rand.New(rand.NewSource(1)), turns{}
	forTransforms(func(q, n int) {
		for range 20 {
			made := drawnParts(source, q, n)
			checkTurn(t, q, n, made.weights, made.dual)
			checkTurn(t, q, n, made.dual, made.weights)
			counts.check(t, q, n, made.weights)
		}
	})
	if counts[api.OK] < 2000 {
		t.Errorf("there were %v", counts)
	}
}

// P15.1 (O2): weights with a small change, and drawn ones.
func TestChangedTurns(t *testing.T) {
	source, counts := rand.New(rand.NewSource(2)), turns{}
	forTransforms(func(q, n int) {
		for range 40 {
			w := drawnParts(source, q, n).weights
			switch i := source.Intn(n + 1); source.Intn(5) {
			case 0:
				w[i]++
			case 1:
				w[i]--
			case 2:
				for i := range w {
					w[i] *= 1 + source.Intn(3)
				}
			case 3:
				j := source.Intn(n + 1)
				w[i], w[j] = w[j], w[i]
			case 4:
				for i := range w {
					w[i] = source.Intn(allWords(q, n)/(n+1) + 1)
				}
			}
			counts.check(t, q, n, w)
		}
	})
	if counts[api.OK] < 100 || counts[api.ErrNot] < 1000 || counts[api.ErrArg] < 300 {
		t.Errorf("there were %v", counts)
	}
}

// P15.1 (O2): weights of all words, of one more or less, and numbers at limits,
// for all q and n.
func TestTurnAtLimits(t *testing.T) {
	counts := turns{}
	forShapes(func(q, n int) {
		numbers := extremes
		if isUpTo(q, n, 30) {
			all := allWeights(q, n)
			counts.check(t, q, n, all)
			for i := range all {
				for _, change := range []int{-1, 1} {
					w := slices.Clone(all)
					w[i] += change
					counts.check(t, q, n, w)
				}
			}
			numbers = append(slices.Clone(extremes), allWords(q, n)-1, allWords(q, n), allWords(q, n)+1)
		}
		for _, number := range numbers {
			for _, other := range []int{0, number} {
				w := slices.Repeat([]int{other}, n+1)
				w[n] = number
				counts.check(t, q, n, w)
				w[0], w[n] = w[n], w[0]
				counts.check(t, q, n, w)
			}
			counts.check(t, q, n, slices.Repeat([]int{number}, n))
			counts.check(t, q, n, slices.Repeat([]int{number}, n+2))
		}
		counts.check(t, q, n, make([]int, n+1))
		counts.check(t, q, n, make([]int, n))
		counts.check(t, q, n, nil)
	})
	for _, q := range extremes {
		for _, n := range extremes {
			counts.check(t, q, n, nil)
			counts.check(t, q, n, []int{1})
			counts.check(t, q, n, []int{1, 0})
		}
	}
	if counts[api.OK] < 100 || counts[api.ErrNot] < 1000 || counts[api.ErrArg] < 1000 || counts[api.ErrBig] < 1000 {
		t.Errorf("there were %v", counts)
	}
}

// P15.1 (O3): the distances of words.
func TestDistribution(t *testing.T) {
	for _, l := range slices.Concat(smallLists(), drawnLists()) {
		want := distancesByHand(l.n, l.words)
		if got, err := transform.Distribution(l.q, l.n, l.words); err != api.OK || !slices.Equal(got, want) {
			t.Errorf("distances of %v over %d symbols: %v, error %d, not %v", l.words, l.q, got, err, want)
		}
	}
}

// P15.1 (O3): lists that are refused, because of one thing.
func TestDistributionIsRefused(t *testing.T) {
	check := func(q, n int, words [][]int) {
		t.Helper()
		if d, err := transform.Distribution(q, n, words); err != api.ErrArg || len(d) > 0 {
			t.Errorf("distances of %v, of length %d over %d symbols: %v, error %d", words, n, q, d, err)
		}
	}
	for _, q := range slices.Concat(extremes, []int{-2, 32}) {
		if q < 2 || q > 16 {
			check(q, 2, [][]int{{0, 0}})
			check(q, 2, [][]int{{0, 0}, {0, 1}})
			check(q, 0, [][]int{{}})
		}
	}
	for _, n := range []int{-1 << 63, -25, -2, -1} {
		check(2, n, [][]int{{}})
		check(2, n, [][]int{{0}})
	}
	check(2, 25, [][]int{make([]int, 25)})
	check(2, 64, [][]int{make([]int, 64)})
	forShapes(func(q, n int) {
		check(q, n, nil)
		check(q, n, [][]int{})
		for _, count := range []int{65, 66, 128, 1 << 16} {
			check(q, n, slices.Repeat([][]int{make([]int, n)}, count))
		}
		for _, count := range []int{1, 2, 64} {
			for _, at := range []int{0, count / 2, count - 1} {
				words := slices.Repeat([][]int{make([]int, n)}, count)
				words[at] = make([]int, n+1)
				check(q, n, words)
				if n == 0 {
					continue
				}
				words[at] = make([]int, n-1)
				check(q, n, words)
				for _, symbol := range []int{-1 << 63, -1, q, q + 1, 1 << 32, 1<<63 - 1} {
					for _, i := range []int{0, n / 2, n - 1} {
						words[at] = make([]int, n)
						words[at][i] = symbol
						check(q, n, words)
					}
				}
			}
		}
	})
}

// transforms counts how far they got.
type transforms map[stage]int

// check fails the test unless Turned does what it has to.
func (c transforms) check(t *testing.T, q, n int, d []api.Frac) stage {
	t.Helper()
	want, wantErr, reached := turnedByHand(q, n, d)
	got, err := transform.Turned(q, n, d)
	if err != wantErr || !slices.Equal(got, want) {
		t.Errorf("Turned(%d, %d, %v) = %v, error %d, not %v, error %d", q, n, d, got, err, want, wantErr)
	}
	c[reached]++
	return reached
}

// P15.1 (O3): transforms of the distances of words.
func TestTurnedDistances(t *testing.T) {
	counts := transforms{}
	for _, l := range slices.Concat(smallLists(), drawnLists()) {
		counts.check(t, l.q, l.n, distancesByHand(l.n, l.words))
	}
	if counts[done] < 5000 || counts[tooManyWords] < 1000 {
		t.Errorf("there were %v", counts)
	}
}

// primes are four of the greatest ones that denominators may be, and less ones.
var primes = []int{1048573, 1048571, 1048559, 1048549, 65521, 257, 7, 3, 2}

// drawnFraction returns a fraction with parts of any size up to 2^20, many of
// whose denominators have common factors, or none.
func drawnFraction(source *rand.Rand) api.Frac {
	n, d := source.Intn(1<<20+1)>>source.Intn(21), 1
	switch source.Intn(4) {
	case 0:
		d = 1 + source.Intn(1<<20)>>source.Intn(21)
	case 1:
		d = primes[source.Intn(len(primes))]
	case 2:
		d = 1 << source.Intn(21)
	}
	r := big.NewRat(int64(n), int64(d))
	return frac(int(r.Num().Int64()), int(r.Denom().Int64()))
}

// P15.1 (O3): transforms of drawn fractions, some of which are too big on the
// way.
func TestTurned(t *testing.T) {
	source, counts := rand.New(rand.NewSource(3)), transforms{}
	forTransforms(func(q, n int) {
		for round := range 60 {
			d := whole(slices.Repeat([]int{0}, n+1)...)
			for i := range d {
				if source.Intn(20) >= round%20 {
					d[i] = drawnFraction(source)
				}
			}
			counts.check(t, q, n, d)
		}
	})
	for s := noSum; s <= done; s++ {
		if counts[s] < 50 {
			t.Errorf("there were %v", counts)
		}
	}
}

// P15.1 (O3): sums are made in the order of i: of the same fractions in another
// order, some are too big on the way.
func TestOrderOfSums(t *testing.T) {
	d := []api.Frac{frac(0, 1), frac(1, primes[0]), frac(primes[0]-1, primes[0]), frac(1, primes[1]), frac(1, primes[2]), frac(1, primes[3])}
	source, counts := rand.New(rand.NewSource(4)), transforms{}
	for range 1000 {
		source.Shuffle(len(d), func(i, j int) { d[i], d[j] = d[j], d[i] })
		counts.check(t, 2, len(d)-1, d)
	}
	if counts[noSum] < 100 || counts[noTerms] < 100 {
		t.Errorf("there were %v", counts)
	}
	// As K_k(0) + 3 K_k(2) is a multiple of 4, the fourths add up to an integer
	// for each k before the denominators become too big for them.
	d = []api.Frac{frac(1, 4), frac(1, 36307), frac(3, 4), frac(1, 36313), frac(1, 36319), frac(1, 36341)}
	if counts.check(t, 2, 5, d) != done {
		t.Errorf("a sum for %v is too big", d)
	}
	slices.Reverse(d)
	if counts.check(t, 2, 5, d) != noSum {
		t.Errorf("the sum of %v is not too big", d)
	}
}

// P15.1 (O3): distances that are refused, because of one thing.
func TestTurnedIsRefused(t *testing.T) {
	counts := transforms{}
	bad := []api.Frac{{}, frac(1, 0), frac(0, 2), frac(2, 4), frac(1, -1), frac(-1, -1), frac(-1, 1), frac(-1, 2), frac(-1<<20, 1), frac(1<<20+1, 1), frac(1, 1<<20+1), frac(1<<20+1, 1<<20), frac(1<<62, 1), frac(1, 1<<62), frac(-1<<63, 1), frac(1<<63-1, 1), frac(1, -1<<63)}
	good := []api.Frac{frac(0, 1), frac(1, 1), frac(1, 2), frac(1<<20, 1), frac(1, 1<<20), frac(1<<20, 1<<20-1), frac(1<<20-1, 1<<20)}
	forShapes(func(q, n int) {
		for _, other := range good[:2] {
			d := slices.Repeat([]api.Frac{other}, n+1)
			for _, i := range []int{0, n / 2, n} {
				for _, a := range slices.Concat(bad, good) {
					d[i] = a
					counts.check(t, q, n, d)
					d[i] = other
				}
			}
			counts.check(t, q, n, d[1:])
			counts.check(t, q, n, append(d, other))
		}
		counts.check(t, q, n, nil)
	})
	// What is no distance is refused even if the sum before it is too big.
	d := []api.Frac{frac(1, primes[0]), frac(1, primes[1]), frac(1, primes[2]), frac(1, primes[3]), frac(1, 1)}
	if counts.check(t, 2, 4, d) != noSum {
		t.Errorf("the sum of %v is not too big", d)
	}
	for _, a := range bad {
		d[4] = a
		if counts.check(t, 2, 4, d) != refused {
			t.Errorf("%v is not refused", d)
		}
	}
	for _, q := range extremes {
		for _, n := range extremes {
			counts.check(t, q, n, nil)
			counts.check(t, q, n, whole(1))
			counts.check(t, q, n, whole(1, 0))
		}
	}
	if counts[refused] < 1000 || counts[tooManyWords] < 1000 || counts[done] < 1000 {
		t.Errorf("there were %v", counts)
	}
}
