package incidence_test

import (
	"math/rand"
	"slices"
	"testing"

	"plexus/api"
	"plexus/incidence"
)

// lists returns the blocks of x as lists of points, increasing.
func lists(x api.Inc) [][]int {
	var l [][]int
	for _, b := range x.B {
		var points []int
		for p := 0; b > 0; p++ {
			if b%2 == 1 {
				points = append(points, p)
			}
			b /= 2
		}
		l = append(l, points)
	}
	return l
}

// number returns the block with the points of l, each of which counts once.
func number(l []int) uint64 {
	points := slices.Clone(l)
	slices.Sort(points)
	b := uint64(0)
	for _, p := range slices.Compact(points) {
		power := uint64(1)
		for range p {
			power *= 2
		}
		b += power
	}
	return b
}

// numbers returns the blocks with the points of each list of l, in order.
func numbers(l [][]int) []uint64 {
	var blocks []uint64
	for _, points := range l {
		blocks = append(blocks, number(points))
	}
	slices.Sort(blocks)
	return blocks
}

// structure returns the structure with the points of each list of l as blocks.
func structure(v int, l [][]int) api.Inc { return api.Inc{V: v, B: numbers(l)} }

// points returns 0 to n - 1.
func points(n int) []int {
	l := make([]int, n)
	for i := range l {
		l[i] = i
	}
	return l
}

// families returns all structures with v points and at most that many blocks.
func families(v, most int) []api.Inc {
	l := []api.Inc{{V: v}}
	for i := 0; i < len(l); i++ {
		x := l[i]
		if len(x.B) == most {
			break
		}
		least := uint64(0)
		if len(x.B) > 0 {
			least = x.B[len(x.B)-1]
		}
		for b := least; b < 1<<v; b++ {
			l = append(l, api.Inc{V: v, B: append(slices.Clone(x.B), b)})
		}
	}
	return l
}

// drawn returns a structure with v points and n blocks, of which several are
// the same, empty or full.
func drawn(source *rand.Rand, v, n int) api.Inc {
	x := api.Inc{V: v}
	for range n {
		b := uint64(source.Intn(1 << v))
		switch source.Intn(8) {
		case 0:
			b = 0
		case 1:
			b = 1<<v - 1
		case 2, 3:
			if len(x.B) > 0 {
				b = x.B[source.Intn(len(x.B))]
			}
		}
		x.B = append(x.B, b)
	}
	slices.Sort(x.B)
	return x
}

// small returns all structures with few points and few blocks.
func small() []api.Inc {
	return slices.Concat(families(1, 4), families(2, 4), families(3, 3), families(4, 2))
}

// samples returns small structures, and others of all sizes, the same ones in
// each run.
func samples() []api.Inc {
	l := append(small(),
		api.Inc{V: 7, B: []uint64{11, 22, 44, 49, 69, 88, 98}},
		api.Inc{V: 16, B: make([]uint64, 64)},
		api.Inc{V: 16, B: slices.Repeat([]uint64{1<<16 - 1}, 64)},
		api.Inc{V: 16, B: slices.Concat(make([]uint64, 32), slices.Repeat([]uint64{1 << 15}, 32))},
		api.Inc{V: 1, B: slices.Concat(make([]uint64, 63), []uint64{1})},
	)
	source := rand.New(rand.NewSource(6))
	for v := 1; v <= api.MaxPoints; v++ {
		for _, n := range []int{1, 2, 3, 7, 15, 16, 17, 33, 63, 64} {
			l = append(l, drawn(source, v, n))
		}
	}
	return l
}

// permutations returns some permutations of n points, also the identity, and all
// of them if they are few.
func permutations(source *rand.Rand, n int) [][]int {
	if n <= 3 {
		return [][][]int{
			{{0}},
			{{0, 1}, {1, 0}},
			{{0, 1, 2}, {0, 2, 1}, {1, 0, 2}, {1, 2, 0}, {2, 0, 1}, {2, 1, 0}},
		}[n-1]
	}
	back := points(n)
	slices.Reverse(back)
	turn := append(points(n)[1:], 0)
	return [][]int{points(n), back, turn, source.Perm(n), source.Perm(n)}
}

func same(x, y api.Inc) bool { return x.V == y.V && slices.Equal(x.B, y.B) }

func sameRows(a, b [][]int) bool { return slices.EqualFunc(a, b, slices.Equal[[]int]) }

// check fails the test unless got is want, and valid.
func check(t *testing.T, what string, got, want, from api.Inc) {
	t.Helper()
	if !same(got, want) || !incidence.Valid(got) {
		t.Errorf("%s of %v: %v, not %v", what, from, got, want)
	}
}

// checkRefused fails the test unless x is the zero value, and the error is want.
func checkRefused(t *testing.T, what string, x api.Inc, err, want api.Errno) {
	t.Helper()
	if x.V != 0 || len(x.B) != 0 || err != want {
		t.Errorf("%s: %v, error %d, not %d", what, x, err, want)
	}
}
