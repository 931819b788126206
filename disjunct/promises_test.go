package disjunct_test

import (
	"math/bits"
	"math/rand"
	"slices"
	"testing"

	"plexus/api"
	"plexus/disjunct"
	"plexus/incidence"
)

// P12.2: with a test more the slack is not less.
func TestMoreTests(t *testing.T) {
	source := rand.New(rand.NewSource(6))
	kept, grown := 0, 0
	for _, p := range slices.Concat(small(), samples()) {
		if len(p.T) == 24 {
			continue
		}
		for d := 0; d <= min(3, p.Items); d++ {
			p := with(p, d, 0)
			more := with(pool(p.Items, append(slices.Clone(p.T), source.Uint64()&(1<<p.Items-1))...), d, 0)
			a, b := disjunct.Slack(p), disjunct.Slack(more)
			switch {
			case b < a:
				t.Errorf("slack of %v: %d, but of %v: %d", p, a, more, b)
			case b == a:
				kept++
			default:
				grown++
			}
		}
	}
	if kept < 100 || grown < 100 {
		t.Errorf("%d slacks are kept, and %d grow", kept, grown)
	}
}

// P12.2: a greater D, and a greater E.
func TestGreaterNumbers(t *testing.T) {
	less := [2]int{}
	for _, p := range slices.Concat(small(), samples()) {
		for d := 1; d <= min(3, p.Items); d++ {
			before, now := disjunct.Slack(with(p, d-1, 0)), disjunct.Slack(with(p, d, 0))
			if now > before {
				t.Errorf("slack of %v: %d with %d, but %d with one less", p, now, d, before)
			}
			if now < before {
				less[0]++
			}
		}
		for e := 1; e <= 3; e++ {
			before, now := disjunct.Best(with(p, 0, e-1)), disjunct.Best(with(p, 0, e))
			if now > before {
				t.Errorf("best number of %v: %d with %d false results, but %d with one less", p, now, e, before)
			}
			if now < before {
				less[1]++
			}
		}
	}
	if less[0] < 100 || less[1] < 100 {
		t.Errorf("%d slacks and %d best numbers become less", less[0], less[1])
	}
}

// isDecided says whether the tests for two different sets of at most D items
// differ in at least 2 E + 1 results, as Positive says them.
func isDecided(p api.Pool) bool {
	var results []uint64
	for _, s := range fewOf(p.Items, p.D) {
		now := disjunct.Positive(p, s)
		for _, before := range results {
			if bits.OnesCount64(before^now) < 2*p.E+1 {
				return false
			}
		}
		results = append(results, now)
	}
	return true
}

// P12.3.
func TestSeparation(t *testing.T) {
	disjunctOnes := 0
	for _, p := range slices.Concat(small(), samples()) {
		for d := 0; d <= min(3, p.Items); d++ {
			if slack, apart := disjunct.Slack(with(p, d, 0)), disjunct.Apart(with(p, d, 0)); apart < slack {
				t.Errorf("%v with %d faulty items: %d apart, and slack %d", p, d, apart, slack)
			}
			for e := range 4 {
				if q := with(p, d, e); disjunct.Disjunct(q) {
					disjunctOnes++
					if disjunct.Apart(q) < 2*e+1 || !isDecided(q) {
						t.Errorf("%v is disjunct, and %d apart", q, disjunct.Apart(q))
					}
				}
			}
		}
	}
	if disjunctOnes < 300 {
		t.Errorf("only %d disjunct pools", disjunctOnes)
	}
}

// meeting returns in how many tests each item is at least, and in how many tests
// two of them are together at most.
func meeting(x api.Inc) (least, most int) {
	pairs := incidence.Pairs(x)
	for i, row := range pairs {
		most = max(most, slices.Max(slices.Concat([]int{0}, row[:i], row[i+1:])))
	}
	return slices.Min(incidence.Degrees(x)), most
}

// P12.4.
func TestBoundOfDesigns(t *testing.T) {
	reached, positive := 0, 0
	for _, p := range slices.Concat(small(), samples()) {
		x := api.Inc{V: p.Items, B: p.T}
		r, m := meeting(x)
		for d := 0; d <= min(3, p.Items); d++ {
			q, err := disjunct.FromInc(x, d, 0)
			if err != api.OK {
				t.Fatalf("no pool of %v: error %d", x, err)
			}
			slack := disjunct.Slack(q)
			if slack < r-d*m {
				t.Errorf("slack of %v with %d faulty items: %d, but degrees from %d, and pairs up to %d", p, d, slack, r, m)
			}
			if d > 0 && slack == r-d*m {
				reached++
			}
			if d > 0 && r-d*m > 0 {
				positive++
			}
		}
	}
	if reached < 20 || positive < 20 {
		t.Errorf("the bound is positive for %d pools, and reached by %d", positive, reached)
	}
}

// P12.5.
func TestBoundOfWords(t *testing.T) {
	reached, positive := 0, 0
	for _, l := range lists() {
		if len(wordsByHand(l, 0, 0).T) > 24 {
			continue
		}
		n := len(l[0])
		least := n
		for i, w := range l {
			for _, before := range l[:i] {
				least = min(least, differ(before, w))
			}
		}
		for d := 0; d <= min(3, len(l)); d++ {
			slack, bound := disjunct.Slack(must(t, l, d, 0)), n-d*(n-least)
			if slack < bound {
				t.Errorf("slack of words with distances of %d, with %d faulty items: %d, of %v", least, d, slack, l)
			}
			if d > 0 && slack == bound {
				reached++
			}
			if d > 0 && bound > 0 {
				positive++
			}
		}
	}
	if reached < 20 || positive < 20 {
		t.Errorf("the bound is positive for %d pools, and reached by %d", positive, reached)
	}
}

// P12.6.
func TestBest(t *testing.T) {
	found := map[int]int{}
	for _, p := range slices.Concat(small(), samples()) {
		for e := range 4 {
			best := disjunct.Best(with(p, 0, e))
			found[best]++
			for d := 0; d <= min(3, p.Items); d++ {
				q := with(p, d, e)
				if disjunct.Best(q) != best {
					t.Errorf("best number of %v: %d, and not %d", q, disjunct.Best(q), best)
				}
				if disjunct.Disjunct(q) != (d <= best) {
					t.Errorf("%v is disjunct: %t, but the best number is %d", q, disjunct.Disjunct(q), best)
				}
			}
			if best < -1 || best > min(3, p.Items) {
				t.Errorf("best number of %v: %d", with(p, 0, e), best)
			}
		}
	}
	for n := -1; n <= 3; n++ {
		if found[n] < 10 {
			t.Errorf("only %d pools with the best number %d", found[n], n)
		}
	}
}
