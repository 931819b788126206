package disjunct_test

import (
	"math"
	"math/rand"
	"slices"
	"testing"

	"plexus/api"
	"plexus/disjunct"
	"plexus/incidence"
)

// P12.1: the examples of the chapter.
func TestExamples(t *testing.T) {
	p := with(pool(7, translates(7, 0, 1, 3)...), 2, 0)
	if n := disjunct.Slack(p); n != 1 || !disjunct.Disjunct(p) {
		t.Errorf("the plane has slack %d, and is disjunct: %t", n, disjunct.Disjunct(p))
	}
	if a, b := disjunct.Best(p), disjunct.Best(with(p, 2, 1)); a != 2 || b != 0 {
		t.Errorf("best numbers of the plane: %d, and %d with a false result", a, b)
	}
	for i := range 7 {
		for k := range i {
			n := 0
			for j := range 7 {
				n += int(disjunct.Positive(p, 1<<i|1<<k) >> j & 1)
			}
			if n != 5 {
				t.Errorf("%d tests have %d or %d", n, i, k)
			}
		}
	}
	if a, b := disjunct.Apart(p), disjunct.Apart(with(p, 1, 0)); a != 2 || b != 3 {
		t.Errorf("sets are apart by %d, and by %d if there is one faulty item", a, b)
	}
}

// nearlyRight returns pools whose tests are at and beyond limits.
func nearlyRight(items int) []api.Pool {
	all, out := uint64(1)<<items-1, uint64(1)<<items
	tests := [][]uint64{nil, {}, {0}, {all}, {out}, {all, out}, {0, all}, {all, 0}, {0, 0}, {all, all}, {0, all, all}, {0, all, 0}, {1, 0, all}, {math.MaxUint64}, {1 << 63}, {0, 1 << 32}}
	for _, n := range []int{23, 24, 25, 26, 64, 65, 300} {
		for _, b := range []uint64{0, all, out} {
			l := make([]uint64, n)
			l[n-1] = b
			tests = append(tests, l, slices.Repeat([]uint64{b}, n))
		}
	}
	var l []api.Pool
	for _, t := range tests {
		l = append(l, api.Pool{Items: items, T: t})
	}
	return l
}

// P12.1 (L1): right pools, and what nearly is.
func TestRight(t *testing.T) {
	var l []api.Pool
	for items := range 20 {
		l = append(l, nearlyRight(items)...)
	}
	for _, n := range extremes {
		l = append(l, api.Pool{Items: n}, api.Pool{Items: n, T: []uint64{0, 1}})
	}
	found := [2]int{}
	for _, p := range append(l, samples()...) {
		for _, d := range extremes {
			for _, e := range extremes {
				p := with(p, d, e)
				want := api.ErrPool
				if isRightByHand(p) {
					want = api.OK
					found[1]++
				} else {
					found[0]++
				}
				if err := disjunct.Right(p); err != want {
					t.Errorf("Right of %v: error %d, not %d", p, err, want)
				}
			}
		}
	}
	if found[0] < 1000 || found[1] < 1000 {
		t.Errorf("%d pools are right, and %d are not", found[1], found[0])
	}
}

// P12.1 (L1, L2): pools of which the slacks are known.
func TestKnownSlacks(t *testing.T) {
	for _, m := range known() {
		for d, want := range m.slacks {
			if n := disjunct.Slack(with(m.p, d, 0)); n != want {
				t.Errorf("slack of %v with %d faulty items: %d, not %d", m.p, d, n, want)
			}
		}
		if n := disjunct.Apart(m.p); n != len(m.p.T)+1 {
			t.Errorf("%v: %d apart, without faulty items", m.p, n)
		}
	}
}

// checkNumbers fails the test unless the numbers of p are those by hand.
func checkNumbers(t *testing.T, p api.Pool) {
	t.Helper()
	slack := slackByHand(p)
	if n := disjunct.Slack(p); n != slack {
		t.Errorf("slack of %v: %d, not %d", p, n, slack)
	}
	if is := disjunct.Disjunct(p); is != (slack > 2*p.E) {
		t.Errorf("%v, of slack %d, is disjunct: %t", p, slack, is)
	}
	if n, want := disjunct.Best(p), bestByHand(p); n != want {
		t.Errorf("best number of %v: %d, not %d", p, n, want)
	}
	if n, want := disjunct.Apart(p), apartByHand(p); n != want {
		t.Errorf("%v: %d apart, not %d", p, n, want)
	}
}

// P12.1 (L1, L2): all small pools.
func TestSmallPools(t *testing.T) {
	best := map[int]int{}
	for _, p := range small() {
		for _, q := range fits(p) {
			checkNumbers(t, q)
			best[disjunct.Best(q)]++
		}
	}
	for n := -1; n <= 3; n++ {
		if best[n] < 10 {
			t.Errorf("only %d small pools with the best number %d", best[n], n)
		}
	}
}

// P12.1 (L1, L2): pools of all sizes.
func TestSamples(t *testing.T) {
	source := rand.New(rand.NewSource(1))
	found := [4][2]int{}
	for _, p := range samples() {
		// What does not depend on E is looked at for one E.
		for d := 0; d <= min(3, p.Items); d++ {
			q := with(p, d, source.Intn(4))
			checkNumbers(t, q)
			if disjunct.Disjunct(q) {
				found[q.E][1]++
			} else {
				found[q.E][0]++
			}
		}
	}
	for e, n := range found {
		if n[0] < 10 || n[1] < 10 {
			t.Errorf("%d pools with %d false results are disjunct, and %d are not", n[1], e, n[0])
		}
	}
}

// P12.1 (L2): Positive, with bits that are no items.
func TestPositive(t *testing.T) {
	source := rand.New(rand.NewSource(2))
	for _, p := range slices.Concat(small(), samples()) {
		all := uint64(1)<<p.Items - 1
		l := []uint64{0, all, math.MaxUint64, all + 1, ^all, 1 << 63}
		for range 10 {
			l = append(l, source.Uint64()&all, source.Uint64()&source.Uint64()&source.Uint64())
		}
		for i := range p.Items {
			l = append(l, 1<<i, 1<<i|1<<p.Items)
		}
		for _, s := range l {
			var want uint64
			for j, is := range haveItem(p, s) {
				if is {
					want |= 1 << j
				}
			}
			if got := disjunct.Positive(p, s); got != want {
				t.Errorf("tests of %v with an item of %b: %b, not %b", p, s, got, want)
			}
		}
	}
}

// P12.1 (L2): Positive depends neither on D nor on E.
func TestPositiveForAllNumbers(t *testing.T) {
	for _, m := range known() {
		for _, p := range fits(m.p) {
			for i := range p.Items {
				if got, want := disjunct.Positive(p, 1<<i), disjunct.Positive(m.p, 1<<i); got != want {
					t.Errorf("tests of %v with %d: %b, not %b", p, i, got, want)
				}
			}
		}
	}
}

// P12.1 (L3): FromInc, for structures of all numbers of points and blocks.
func TestFromInc(t *testing.T) {
	source := rand.New(rand.NewSource(3))
	found := [2]int{}
	for v := 1; v <= 16; v++ {
		for _, n := range []int{0, 1, 2, 7, 23, 24, 25, 63, 64} {
			for _, d := range append([]int{v, v + 1}, extremes...) {
				e := extremes[source.Intn(len(extremes))]
				if source.Intn(2) == 0 {
					e = source.Intn(4)
				}
				x := api.Inc{V: v, B: drawn(source, v, n, 3).T}
				if !incidence.Valid(x) {
					t.Fatalf("%v is not valid", x)
				}
				want := api.Pool{Items: v, T: x.B, D: d, E: e}
				got, err := disjunct.FromInc(x, d, e)
				if isRightByHand(want) {
					check(t, "FromInc", got, err, want)
					found[1]++
				} else {
					checkRefused(t, "FromInc", got, err, api.ErrPool)
					found[0]++
				}
			}
		}
	}
	if found[0] < 100 || found[1] < 100 {
		t.Errorf("%d pools are right, and %d are not", found[1], found[0])
	}
}

// wordsByHand returns the pool of words.
func wordsByHand(l [][]int, d, e int) api.Pool {
	tests := map[[2]int]uint64{}
	for i, w := range l {
		for k, symbol := range w {
			tests[[2]int{k, symbol}] |= 1 << i
		}
	}
	var sets []uint64
	for _, s := range tests {
		sets = append(sets, s)
	}
	return with(pool(len(l), sets...), d, e)
}

// P12.1 (L3): FromWords, for words of one length.
func TestFromWords(t *testing.T) {
	source := rand.New(rand.NewSource(4))
	l := append(lists(), [][]int{{}}, [][]int{{5}}, [][]int{numbers(1, 24)}, make([][]int, 13))
	for range 300 {
		count := 1 + source.Intn(14)
		l = append(l, words(source, count, source.Intn(26), numbers(0, source.Intn(3))...))
	}
	found := [2]int{}
	for _, l := range l {
		for _, c := range [][2]int{{0, 0}, {1, 2}, {len(l), 3}, {len(l) + 1, 0}, {2, 4}, {-1, 0}, {0, -1}, {math.MinInt, 0}, {0, math.MaxInt}} {
			d, e := c[0], c[1]
			want := wordsByHand(l, d, e)
			got, err := disjunct.FromWords(l, d, e)
			if isRightByHand(want) {
				check(t, "FromWords", got, err, want)
				found[1]++
			} else {
				checkRefused(t, "FromWords", got, err, api.ErrPool)
				found[0]++
			}
		}
	}
	if found[0] < 1000 || found[1] < 1000 {
		t.Errorf("%d pools are right, and %d are not", found[1], found[0])
	}
}

// P12.1 (L3): equal words and tests are there as often as there are words,
// coordinates and symbols.
func TestEqualWordsAndTests(t *testing.T) {
	for _, c := range []struct {
		l    [][]int
		want []uint64
	}{
		{[][]int{{7, 7, 7}, {7, 7, 7}}, []uint64{3, 3, 3}},
		{[][]int{{0, 0}, {1, 1}}, []uint64{1, 1, 2, 2}},
		{[][]int{{1, 2}, {2, 1}}, []uint64{1, 1, 2, 2}},
		{[][]int{{0, 5, 0}, {1, 5, 0}, {0, 5, 2}}, []uint64{2, 3, 4, 5, 7}},
		{[][]int{{4}}, []uint64{1}},
		{[][]int{nil, {}, nil}, nil},
	} {
		got, err := disjunct.FromWords(c.l, 1, 1)
		check(t, "FromWords", got, err, with(pool(len(c.l), c.want...), 1, 1))
	}
}

// P12.1 (L3): the most tests of a pool of words, and one more.
func TestMostTestsOfWords(t *testing.T) {
	source := rand.New(rand.NewSource(5))
	for count := 1; count <= 12; count++ {
		for length := 1; length <= 26; length++ {
			// Two symbols in the first coordinates, and one in all others.
			l := words(source, count, length, 3)
			for two := 0; count > 1 && two < length; two++ {
				l[count-1][two] = 4
			}
			got, err := disjunct.FromWords(l, 0, 0)
			if want := wordsByHand(l, 0, 0); len(want.T) <= 24 {
				check(t, "FromWords", got, err, want)
			} else {
				checkRefused(t, "FromWords", got, err, api.ErrPool)
			}
		}
	}
	l := words(source, 2, 23, 0)
	l[1][22] = 1
	if p := must(t, l, 2, 3); len(p.T) != 24 {
		t.Errorf("a pool of %d tests", len(p.T))
	}
	l = append(l, slices.Clone(l[0]))
	l[2][22] = 2
	got, err := disjunct.FromWords(l, 2, 3)
	checkRefused(t, "FromWords of 25 tests", got, err, api.ErrPool)
}

// P12.1 (L3): words that are not of one length; ErrArg comes first.
func TestUnequalWords(t *testing.T) {
	for length := range 30 {
		w := numbers(1, length)
		for _, other := range [][]int{append(slices.Clone(w), 0), w[:length/2], make([]int, 300)} {
			if len(other) == length {
				continue
			}
			for _, n := range []int{1, 2, 11, 12, 13, 300} {
				same := slices.Repeat([][]int{w}, n)
				for _, l := range [][][]int{append(slices.Clone(same), other), append([][]int{other}, same...), slices.Concat(same, [][]int{other}, same)} {
					for _, d := range []int{0, 1, -1, 4} {
						got, err := disjunct.FromWords(l, d, d)
						checkRefused(t, "FromWords of unequal words", got, err, api.ErrArg)
					}
				}
			}
		}
	}
}

// P12.1 (L3): no words, too many ones and too long ones.
func TestNoPoolsOfWords(t *testing.T) {
	many := make([][]int, 100000)
	for i := range many {
		many[i] = []int{i, -i, 0, 1}
	}
	for _, l := range [][][]int{nil, {}, make([][]int, 13), make([][]int, 1<<20), {make([]int, 25)}, {make([]int, 1<<20)}, slices.Repeat([][]int{make([]int, 1<<20)}, 12), many} {
		got, err := disjunct.FromWords(l, 0, 0)
		checkRefused(t, "FromWords", got, err, api.ErrPool)
	}
}
