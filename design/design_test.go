package design_test

import (
	"math"
	"math/big"
	"slices"
	"testing"

	"plexus/api"
	"plexus/design"
	"plexus/incidence"
)

// P9.1: the examples of the chapter.
func TestExamples(t *testing.T) {
	plane := translates(7, []int{0, 1, 3})
	checkIs(t, plane, api.Params{T: 2, V: 7, K: 3, L: 1}, api.OK)
	checkIs(t, plane, api.Params{T: 0, V: 7, K: 3, L: 7}, api.OK)
	checkIs(t, plane, api.Params{T: 1, V: 7, K: 3, L: 3}, api.OK)
	checkIs(t, incidence.Complement(plane), api.Params{T: 2, V: 7, K: 4, L: 2}, api.OK)
	if p, err := design.Strength(plane); p != (api.Params{T: 2, V: 7, K: 3, L: 1}) || err != api.OK {
		t.Errorf("Strength of the plane: %v, error %d", p, err)
	}
	if p, err := design.Turned(api.Params{T: 2, V: 7, K: 3, L: 1}); p != (api.Params{T: 2, V: 7, K: 4, L: 2}) || err != api.OK {
		t.Errorf("Turned of the plane: %v, error %d", p, err)
	}
	for i, want := range []int{10, 5, 2} {
		if n, err := design.Lambda(api.Params{T: 2, V: 6, K: 3, L: 2}, i); n != (api.Frac{N: want, D: 1}) || err != api.OK {
			t.Errorf("Lambda of {2, 6, 3, 2} and %d: %v, error %d", i, n, err)
		}
	}
	if n, err := design.Lambda(api.Params{T: 2, V: 5, K: 3, L: 1}, 0); n != (api.Frac{N: 10, D: 3}) || err != api.OK {
		t.Errorf("Lambda of {2, 5, 3, 1} and 0: %v, error %d", n, err)
	}
	pairs := api.Inc{V: 4, B: []uint64{3, 5, 6, 9, 10, 12}}
	want := [][]int{{0, 5}, {1, 4}, {2, 3}}
	if c, err := design.Resolve(pairs); !same(c, want) || err != api.OK || design.Classes(pairs, c) != api.OK {
		t.Errorf("Resolve of all pairs of 4 points: %v, error %d", c, err)
	}
}

// someParams returns parameters of which each may be right or not.
func someParams(values []int) []api.Params {
	var l []api.Params
	for _, t := range values {
		for _, v := range values {
			for _, k := range values {
				for _, together := range values {
					l = append(l, api.Params{T: t, V: v, K: k, L: together})
				}
			}
		}
	}
	return l
}

var extremes = []int{math.MinInt, math.MinInt + 1, -65, -1, 0, 1, 2, 5, 6, 15, 16, 17, 63, 64, 65, 1 << 32, 1<<32 + 5, math.MaxInt}

// P9.1: what is not right is refused by all functions, and nothing else is.
func TestParametersThatAreRight(t *testing.T) {
	for _, p := range someParams(extremes) {
		// With no right parameters of these values, this is a design.
		want := api.ErrDesign
		if !isRightByHand(p) {
			want = api.ErrArg
		}
		checkIs(t, api.Inc{V: 3, B: []uint64{1, 2, 3}}, p, want)
		turned, err := design.Turned(p)
		if (err == api.ErrArg) != (want == api.ErrArg) || err != api.OK && turned != (api.Params{}) {
			t.Errorf("Turned of %v: %v, error %d", p, turned, err)
		}
		for _, i := range extremes {
			n, err := design.Lambda(p, i)
			is := want != api.ErrArg && i >= 0 && i <= p.T
			if is && err != api.OK || !is && (err != api.ErrArg || n != (api.Frac{})) {
				t.Errorf("Lambda of %v and %d: %v, error %d", p, i, n, err)
			}
		}
	}
}

// P9.1: Check of small structures with all small parameters.
func TestCheckOfSmallStructures(t *testing.T) {
	params := someParams([]int{-1, 0, 1, 2, 3, 4, 5, 6})
	for _, x := range small() {
		for _, p := range params {
			want := api.ErrDesign
			switch {
			case !isRightByHand(p):
				want = api.ErrArg
			case isDesignByHand(x, p):
				want = api.OK
			}
			checkIs(t, x, p, want)
		}
	}
}

// neighbours returns parameters that differ from p by 1 in one of them.
func neighbours(p api.Params) []api.Params {
	l := []api.Params{p, p, p, p, p, p, p, p}
	for i, d := range []int{-1, 1} {
		l[i].T += d
		l[2+i].V += d
		l[4+i].K += d
		l[6+i].L += d
	}
	return l
}

// P9.1: Check of all samples, with their parameters and with others.
func TestCheckOfSamples(t *testing.T) {
	var found [6]int
	for _, sample := range samples() {
		x := sample.x
		var others []api.Params
		for _, p := range sample.params {
			found[p.T]++
			checkIs(t, x, p, api.OK)
			others = append(others, neighbours(p)...)
		}
		for k := range x.V + 1 {
			for strength := range min(k, 5) + 1 {
				for _, n := range []int{1, 2, 3, len(x.B), 64} {
					others = append(others, api.Params{T: strength, V: x.V, K: k, L: n})
				}
			}
		}
		for _, p := range others {
			if isRightByHand(p) && !slices.Contains(sample.params, p) {
				checkIs(t, x, p, api.ErrDesign)
			}
		}
	}
	for strength, n := range found {
		if n < 50 {
			t.Errorf("only %d designs with the T %d", n, strength)
		}
	}
}

// P9.1: designs that are known.
func TestCheckOfKnownDesigns(t *testing.T) {
	for _, d := range knownDesigns() {
		checkIs(t, d.x, d.p, api.OK)
		more := d.p
		more.T++
		for n := 1; n <= 64; n++ {
			more.L = n
			if isRightByHand(more) {
				checkIs(t, d.x, more, api.ErrDesign)
			}
		}
	}
}

// forRight runs a test for all right parameters.
func forRight(test func(p api.Params)) {
	for v := 1; v <= 16; v++ {
		for k := range v + 1 {
			for strength := range min(k, 5) + 1 {
				for n := 1; n <= 64; n++ {
					test(api.Params{T: strength, V: v, K: k, L: n})
				}
			}
		}
	}
}

// P9.1: Lambda of all right parameters.
func TestLambda(t *testing.T) {
	forRight(func(p api.Params) {
		for i := range p.T + 1 {
			got, err := design.Lambda(p, i)
			want := throughByHand(p, i)
			if err != api.OK || int64(got.N) != want.Num().Int64() || int64(got.D) != want.Denom().Int64() {
				t.Fatalf("Lambda of %v and %d: %v, error %d, not %v", p, i, got, err, want)
			}
		}
		for _, i := range []int{-1, p.T + 1} {
			if got, err := design.Lambda(p, i); got != (api.Frac{}) || err != api.ErrArg {
				t.Fatalf("Lambda of %v and %d: %v, error %d", p, i, got, err)
			}
		}
	})
}

// turnedByHand returns the parameters of the complement, if there are any.
func turnedByHand(p api.Params) (api.Params, bool) {
	sum := new(big.Rat)
	for i := range p.T + 1 {
		n := throughByHand(p, i)
		if !n.IsInt() {
			return api.Params{}, false
		}
		n.Mul(n, new(big.Rat).SetInt(chosen(p.T, i)))
		if i%2 == 1 {
			n.Neg(n)
		}
		sum.Add(sum, n)
	}
	turned := api.Params{T: p.T, V: p.V, K: p.V - p.K, L: int(sum.Num().Int64())}
	return turned, isRightByHand(turned)
}

// P9.1: Turned of all right parameters.
func TestTurned(t *testing.T) {
	accepted, refused := 0, 0
	forRight(func(p api.Params) {
		got, err := design.Turned(p)
		want, is := turnedByHand(p)
		if is {
			accepted++
		} else {
			refused++
		}
		if is && (got != want || err != api.OK) || !is && (got != api.Params{} || err != api.ErrDesign) {
			t.Fatalf("Turned of %v: %v, error %d", p, got, err)
		}
	})
	if accepted < 1000 || refused < 1000 {
		t.Errorf("%d accepted, %d refused", accepted, refused)
	}
}

// P9.1: values that were calculated by hand, at the edges.
func TestTurnedByHand(t *testing.T) {
	for _, c := range []struct {
		p, want api.Params
		err     api.Errno
	}{
		{api.Params{T: 0, V: 3, K: 3, L: 5}, api.Params{T: 0, V: 3, K: 0, L: 5}, api.OK},
		{api.Params{T: 0, V: 16, K: 0, L: 64}, api.Params{T: 0, V: 16, K: 16, L: 64}, api.OK},
		{api.Params{T: 1, V: 2, K: 1, L: 64}, api.Params{T: 1, V: 2, K: 1, L: 64}, api.OK},
		{api.Params{T: 3, V: 8, K: 4, L: 1}, api.Params{T: 3, V: 8, K: 4, L: 1}, api.OK},
		{api.Params{T: 1, V: 16, K: 1, L: 4}, api.Params{T: 1, V: 16, K: 15, L: 60}, api.OK},
		{api.Params{T: 5, V: 12, K: 6, L: 1}, api.Params{T: 5, V: 12, K: 6, L: 1}, api.OK},
		// The new L is too great.
		{api.Params{T: 1, V: 16, K: 1, L: 5}, api.Params{}, api.ErrDesign},
		// The new K is less than T.
		{api.Params{T: 1, V: 3, K: 3, L: 2}, api.Params{}, api.ErrDesign},
		{api.Params{T: 3, V: 4, K: 3, L: 1}, api.Params{}, api.ErrDesign},
		// The number of blocks is no integer, or that through one point alone.
		{api.Params{T: 2, V: 5, K: 3, L: 1}, api.Params{}, api.ErrDesign},
		{api.Params{T: 2, V: 8, K: 4, L: 2}, api.Params{}, api.ErrDesign},
		{api.Params{T: 2, V: 6, K: 3, L: 1}, api.Params{}, api.ErrDesign},
		{api.Params{}, api.Params{}, api.ErrArg},
	} {
		if got, err := design.Turned(c.p); got != c.want || err != c.err {
			t.Errorf("Turned of %v: %v, error %d", c.p, got, err)
		}
	}
}

// P9.1: Strength.
func TestStrength(t *testing.T) {
	var found [4]int
	for _, sample := range samples() {
		x := sample.x
		var want api.Params
		wantErr := api.ErrDesign
		for _, p := range sample.params {
			if p.T <= 3 {
				want, wantErr = p, api.OK
			}
		}
		got, err := design.Strength(x)
		if got != want || err != wantErr {
			t.Errorf("Strength of %v: %v, error %d, not %v", x, got, err, want)
		}
		if err == api.OK {
			found[got.T]++
		}
		sizes := map[int]bool{}
		for _, b := range x.B {
			sizes[len(pointsOf(b))] = true
		}
		if (len(sizes) == 1) != (err == api.OK) {
			t.Errorf("Strength of %v: error %d", x, err)
		}
	}
	for strength, n := range found {
		if n < 50 {
			t.Errorf("only %d structures with the strength %d", n, strength)
		}
	}
}

// P9.1: Strength of designs that are known.
func TestStrengthOfKnownDesigns(t *testing.T) {
	for _, d := range knownDesigns() {
		got, err := design.Strength(d.x)
		if err != api.OK || d.p.T <= 3 && got != d.p || d.p.T > 3 && got.T != 3 {
			t.Errorf("Strength of %v: %v, error %d, not %v", d.x, got, err, d.p)
		}
	}
}
