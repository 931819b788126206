package transform_test

import (
	"math/big"
	"math/bits"
	"math/rand"
	"slices"
	"testing"

	"plexus/api"
	"plexus/code"
	"plexus/transform"
)

// numbersOf returns the table for q and n as the package has it.
func numbersOf(t *testing.T, q, n int) table {
	t.Helper()
	made := make(table, n+1)
	for k := range made {
		for i := range n + 1 {
			number, err := transform.Krawtchouk(q, n, k, i)
			if err != api.OK {
				t.Fatalf("Krawtchouk(%d, %d, %d, %d): error %d", q, n, k, i, err)
			}
			made[k] = append(made[k], big.NewInt(int64(number)))
		}
	}
	return made
}

// P15.2: the product of the table with itself is q^n times the identity.
func TestOrthogonality(t *testing.T) {
	forShapes(func(q, n int) {
		if !isUpTo(q, n, 62) {
			return
		}
		numbers := numbersOf(t, q, n)
		for k, row := range numbers {
			for l := range n + 1 {
				sum := new(big.Int)
				for i, number := range row {
					sum.Add(sum, new(big.Int).Mul(number, numbers[i][l]))
				}
				want := 0
				if k == l {
					want = allWords(q, n)
				}
				if sum.Cmp(big.NewInt(int64(want))) != 0 {
					t.Errorf("q = %d, n = %d: the sum of K_%d(i) K_i(%d) is %d, not %d", q, n, k, l, sum, want)
				}
			}
		}
	})
}

// P15.2: the symmetry of the table.
func TestSymmetry(t *testing.T) {
	forShapes(func(q, n int) {
		if !isUpTo(q, n, 62) {
			return
		}
		numbers := numbersOf(t, q, n)
		weight := func(i int) *big.Int {
			power := new(big.Int).Exp(big.NewInt(int64(q-1)), big.NewInt(int64(i)), nil)
			return power.Mul(power, subsets(n, i))
		}
		for k := range n + 1 {
			for i := range n + 1 {
				one, other := new(big.Int).Mul(weight(i), numbers[k][i]), new(big.Int).Mul(weight(k), numbers[i][k])
				if one.Cmp(other) != 0 {
					t.Errorf("q = %d, n = %d: K_%d(%d) = %d, and K_%d(%d) = %d", q, n, k, i, numbers[k][i], i, k, numbers[i][k])
				}
			}
		}
	})
}

// checkLightest fails the test unless w begins like the weights of the dual of a
// code: words of weight 1 are where the code is 0, and words of weight 2, besides
// sums of these, where its rows have a multiple of the same column.
func checkLightest(t *testing.T, c api.Code, w []int) {
	t.Helper()
	zeros := 0
	pairs := 0
	for i := range c.N {
		if isZeroAt(c, i) {
			zeros++
		}
		for j := range i {
			one, err := code.Make(c.Q, 2, columns(c, j, i))
			if err != api.OK {
				t.Fatalf("no code of two columns of %v: error %d", c, err)
			}
			if code.Dim(one) == 1 && !isZeroAt(c, i) && !isZeroAt(c, j) {
				pairs++
			}
		}
	}
	ones, twos := (c.Q-1)*zeros, (c.Q-1)*(c.Q-1)*zeros*(zeros-1)/2+(c.Q-1)*pairs
	if w[0] != 1 || w[1] != ones || len(w) > 2 && w[2] != twos {
		t.Errorf("weights of the dual of %v: %v, not 1, %d, %d", c, w, ones, twos)
	}
}

func isZeroAt(c api.Code, i int) bool {
	return !slices.ContainsFunc(c.G, func(row []int) bool { return row[i] != 0 })
}

// columns returns two columns of the rows of a code.
func columns(c api.Code, i, j int) [][]int {
	var l [][]int
	for _, row := range c.G {
		l = append(l, []int{row[i], row[j]})
	}
	return l
}

// checkDual fails the test unless weights of a code are turned into those of its
// dual, and back; it reports whether all words of the dual were looked at.
func checkDual(t *testing.T, c api.Code) bool {
	t.Helper()
	w, err := code.Weights(c)
	if err != api.OK {
		t.Fatalf("weights of %v: error %d", c, err)
	}
	turned, err := transform.Turn(c.Q, c.N, w)
	if err != api.OK {
		t.Errorf("weights of %v are not turned: error %d", c, err)
		return false
	}
	checkTurn(t, c.Q, c.N, turned, w)
	checkLightest(t, c, turned)
	dual := code.Dual(c)
	if want, err := code.Weights(dual); err == api.OK && !slices.Equal(turned, want) {
		t.Errorf("weights of the dual of %v: %v, not %v", c, turned, want)
	}
	if allWords(c.Q, len(dual.G)) > 1<<13 {
		return false
	}
	if want := weightsByHand(t, dual); !slices.Equal(turned, want) {
		t.Errorf("weights of the dual of %v: %v, not %v", c, turned, want)
	}
	return true
}

// P15.3: the weights of drawn codes.
func TestMacWilliams(t *testing.T) {
	whole, begun := 0, 0
	forCodes(t, 4096, func(c api.Code) {
		switch {
		case !isUpTo(c.Q, c.N, 30):
			if w, err := transform.Turn(c.Q, c.N, make([]int, c.N+1)); err != api.ErrBig || len(w) > 0 {
				t.Errorf("length %d over %d elements: %v, error %d", c.N, c.Q, w, err)
			}
		case checkDual(t, c):
			whole++
		default:
			begun++
		}
	})
	if whole < 300 || begun < 200 {
		t.Errorf("%d duals were looked through, and %d were not", whole, begun)
	}
}

// P15.3: the weights of all codes that one or two rows make, over few elements.
func TestMacWilliamsOfSmallCodes(t *testing.T) {
	for _, s := range [][2]int{{2, 1}, {2, 2}, {2, 3}, {2, 4}, {3, 1}, {3, 2}, {3, 3}, {4, 1}, {4, 2}, {5, 1}, {5, 2}, {7, 1}, {8, 1}, {9, 1}, {11, 1}, {13, 1}, {16, 1}} {
		for _, l := range everyList(s[0], s[1], 2) {
			c, err := code.Make(l.q, l.n, l.words)
			if err != api.OK {
				t.Fatalf("no code of %v: error %d", l.words, err)
			}
			checkDual(t, c)
		}
	}
}

// P15.3: known codes.
func TestMacWilliamsOfKnownCodes(t *testing.T) {
	golay := []int{0: 1, 8: 759, 12: 2576, 16: 759, 24: 1}
	checkTurn(t, 2, 24, golay, golay)
	checkTurn(t, 2, 23, []int{0: 1, 8: 506, 12: 1288, 16: 253, 23: 0}, []int{0: 1, 7: 253, 8: 506, 11: 1288, 12: 1288, 15: 506, 16: 253, 23: 1})
	ternary := []int{0: 1, 6: 264, 9: 440, 12: 24}
	checkTurn(t, 3, 12, ternary, ternary)
	hexacode := []int{0: 1, 4: 45, 6: 18}
	checkTurn(t, 4, 6, hexacode, hexacode)
	checkTurn(t, 2, 15, []int{0: 1, 8: 15, 15: 0}, []int{1, 0, 0, 35, 105, 168, 280, 435, 435, 280, 168, 105, 35, 0, 0, 1})
}

// P15.3: what is turned twice.
func TestTurnedTwice(t *testing.T) {
	checked := 0
	check := func(q, n int, w []int) {
		if len(w) == 0 || w[0] != 1 {
			return
		}
		if turned, err := transform.Turn(q, n, w); err == api.OK {
			checked++
			checkTurn(t, q, n, turned, w)
		}
	}
	for _, s := range [][2]int{{2, 1}, {2, 2}, {2, 3}, {2, 4}, {3, 1}, {3, 2}, {3, 3}, {4, 1}, {4, 2}, {6, 1}, {6, 2}, {16, 1}} {
		for _, w := range summing(s[1], allWords(s[0], s[1])-1) {
			check(s[0], s[1], append([]int{1}, w...))
		}
	}
	source := rand.New(rand.NewSource(5))
	forTransforms(func(q, n int) {
		for range 20 {
			made := drawnParts(source, q, n)
			check(q, n, made.weights)
			other := drawnParts(source, q, n)
			for i := 1; i <= n; i++ {
				made.weights[i] += other.weights[i]
			}
			check(q, n, made.weights)
		}
	})
	if checked < 2500 {
		t.Errorf("only %d weights were turned twice", checked)
	}
}

// forTransformed runs a test for the lists of words for which there is a
// transform, with it.
func forTransformed(t *testing.T, test func(l listing, turned []api.Frac)) {
	for _, l := range slices.Concat(smallLists(), drawnLists(), evenLists()) {
		d, err := transform.Distribution(l.q, l.n, l.words)
		if err != api.OK {
			t.Fatalf("distances of %v over %d symbols: error %d", l.words, l.q, err)
		}
		turned, err := transform.Turned(l.q, l.n, d)
		wantErr := api.OK
		if !isUpTo(l.q, l.n, 30) {
			wantErr = api.ErrBig
		}
		if err != wantErr {
			t.Errorf("transform of %v over %d symbols: error %d, not %d", d, l.q, err, wantErr)
		}
		if err == api.OK {
			test(l, turned)
		}
	}
}

// P15.4.
func TestDelsarte(t *testing.T) {
	count, reached := 0, 0
	forTransformed(t, func(l listing, turned []api.Frac) {
		count++
		if len(turned) != l.n+1 || turned[0] != frac(1, 1) {
			t.Errorf("transform of %v over %d symbols: %v", l.words, l.q, turned)
		}
		for k, a := range turned {
			if a.N < 0 || a.D < 1 {
				t.Errorf("transform of %v over %d symbols has %v at %d", l.words, l.q, a, k)
			}
			if a.N == 0 {
				reached++
			}
		}
	})
	if count < 5000 || reached < 1000 {
		t.Errorf("%d transforms, with %d zeros", count, reached)
	}
}

// areEven says whether these places have all combinations of symbols equally
// often.
func (l listing) areEven(places []int) bool {
	counts := map[string]int{}
	for _, w := range l.words {
		var symbols []byte
		for _, i := range places {
			symbols = append(symbols, byte(w[i]))
		}
		counts[string(symbols)]++
	}
	if len(counts) != allWords(l.q, len(places)) {
		return false
	}
	for _, count := range counts {
		if count*len(counts) != len(l.words) {
			return false
		}
	}
	return true
}

// strength returns the greatest number of places, any of which have all
// combinations equally often. No more than six of them have so few as 64.
func (l listing) strength() int {
	most := 0
	for t := 1; t <= min(l.n, 6); t++ {
		for set := range uint(1) << l.n {
			if bits.OnesCount(set) != t {
				continue
			}
			var places []int
			for i := range l.n {
				if set>>i&1 == 1 {
					places = append(places, i)
				}
			}
			if !l.areEven(places) {
				return most
			}
		}
		most = t
	}
	return most
}

// P15.5.
func TestStrength(t *testing.T) {
	found := map[int]int{}
	forTransformed(t, func(l listing, turned []api.Frac) {
		zeros := 0
		for zeros < l.n && turned[zeros+1].N == 0 {
			zeros++
		}
		found[zeros]++
		if strength := l.strength(); strength != zeros {
			t.Errorf("the strength of %v over %d symbols is %d, and its transform %v", l.words, l.q, strength, turned)
		}
	})
	for strength := range 7 {
		if found[strength] < 4 {
			t.Errorf("only %d lists of the strength %d: %v", found[strength], strength, found)
		}
	}
}

// P15.6.
func TestDistancesOfCodes(t *testing.T) {
	count := 0
	forCodes(t, 64, func(c api.Code) {
		count++
		words, err := code.Words(c)
		if err != api.OK {
			t.Fatalf("words of %v: error %d", c, err)
		}
		rand.New(rand.NewSource(int64(count))).Shuffle(len(words), func(i, j int) { words[i], words[j] = words[j], words[i] })
		w, err := code.Weights(c)
		if err != api.OK {
			t.Fatalf("weights of %v: error %d", c, err)
		}
		if d, err := transform.Distribution(c.Q, c.N, words); err != api.OK || !slices.Equal(d, whole(w...)) {
			t.Errorf("distances of the words of %v: %v, error %d, not %v", c, d, err, w)
		}
	})
	if count < 800 {
		t.Errorf("only %d codes", count)
	}
}
