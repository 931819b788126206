package design_test

import (
	"math"
	"math/rand"
	"slices"
	"testing"

	"plexus/api"
	"plexus/design"
)

// checkClasses fails the test unless Classes says whether c is a resolution of
// x, and reports whether it is one.
func checkClasses(t *testing.T, x api.Inc, c [][]int) bool {
	t.Helper()
	is, want := isResolutionByHand(x, c), api.ErrDesign
	if is {
		want = api.OK
	}
	if err := design.Classes(x, c); err != want {
		t.Errorf("Classes of %v and %v: error %d, not %d", x, c, err, want)
	}
	return is
}

// upToLength returns all lists of at most that many of the values.
func upToLength[T any](values []T, most int) [][]T {
	l := [][]T{{}}
	for i := 0; i < len(l) && len(l[i]) < most; i++ {
		for _, x := range values {
			l = append(l, append(slices.Clone(l[i]), x))
		}
	}
	return l
}

// P9.1: all lists of few short classes.
func TestClassesOfSmallStructures(t *testing.T) {
	indices := []int{-1, 0, 1, 2, 3}
	lists := slices.Concat(upToLength(upToLength(indices, 3), 2), upToLength(upToLength(indices, 1), 4))
	found := 0
	for _, x := range slices.Concat(families(1, 3), families(2, 3), []api.Inc{structure(3, 1, 2, 4), structure(3, 1, 6, 7), structure(3, 3, 5, 6), structure(3, 3, 4), structure(3, 4, 7)}) {
		for _, c := range lists {
			if checkClasses(t, x, c) {
				found++
			}
		}
	}
	if found < 30 {
		t.Errorf("only %d resolutions", found)
	}
}

// resolved is a structure with a resolution.
type resolved struct {
	x api.Inc
	c [][]int
}

// ofClasses returns the structure of the blocks of some classes, and these as a
// resolution.
func ofClasses(v int, classes [][]uint64) resolved {
	r := resolved{x: structure(v, slices.Concat(classes...)...)}
	taken := map[int]bool{}
	for _, blocks := range classes {
		var class []int
		for _, b := range blocks {
			j := slices.Index(r.x.B, b)
			for taken[j] {
				j++
			}
			taken[j] = true
			class = append(class, j)
		}
		r.c = append(r.c, class)
	}
	return r
}

// partition returns v points as blocks, at most so many, drawn.
func partition(source *rand.Rand, v, most int) []uint64 {
	blocks := make([]uint64, 1+source.Intn(most))
	for p := range v {
		blocks[source.Intn(len(blocks))] |= 1 << p
	}
	return slices.DeleteFunc(blocks, func(b uint64) bool { return b == 0 })
}

// resolvedOnes returns structures with at most so many blocks, and resolutions.
func resolvedOnes(source *rand.Rand, most int) []resolved {
	var l []resolved
	for v := 1; v <= 16; v++ {
		for range 40 {
			var classes [][]uint64
			n := 0
			for {
				class := partition(source, v, 1+source.Intn(6))
				if source.Intn(3) == 0 && len(classes) > 0 {
					class = classes[source.Intn(len(classes))]
				}
				if n += len(class); n > most {
					break
				}
				classes = append(classes, class)
			}
			if len(classes) > 0 {
				l = append(l, ofClasses(v, classes))
			}
		}
	}
	return l
}

// knownResolutions returns designs with resolutions, and others with all numbers
// of points and up to 64 blocks.
func knownResolutions() []resolved {
	l := []resolved{
		ofClasses(4, affine(2)), ofClasses(9, affine(3)), ofClasses(16, affine(4)),
		ofClasses(8, planes(3)), ofClasses(16, planes(4)), ofClasses(4, planes(2)),
		ofClasses(16, slices.Repeat([][]uint64{{0xff00, 0x00ff}}, 32)),
		ofClasses(16, slices.Repeat([][]uint64{parts(1<<16-1, 1)}, 4)),
		ofClasses(16, slices.Repeat([][]uint64{{1<<16 - 1}}, 64)),
	}
	return slices.Concat(l, resolvedOnes(rand.New(rand.NewSource(2)), 64), resolvedOnes(rand.New(rand.NewSource(3)), 14))
}

// shuffled returns c with its classes, and each class, in another order.
func shuffled(source *rand.Rand, c [][]int) [][]int {
	var l [][]int
	for _, i := range source.Perm(len(c)) {
		var class []int
		for _, k := range source.Perm(len(c[i])) {
			class = append(class, c[i][k])
		}
		l = append(l, class)
	}
	return l
}

// altered returns lists of classes that differ a little from c, of n blocks.
func altered(source *rand.Rand, c [][]int, n int) [][][]int {
	some := func() (int, int) { i := source.Intn(len(c)); return i, source.Intn(len(c[i])) }
	change := func(change func(c [][]int)) [][]int {
		var l [][]int
		for _, class := range c {
			l = append(l, slices.Clone(class))
		}
		change(l)
		return l
	}
	i, k := some()
	other, place := some()
	l := [][][]int{
		slices.Concat(c, [][]int{{}}),
		slices.Concat(c, [][]int{c[i]}),
		slices.Delete(slices.Clone(c), i, i+1),
		slices.Concat(c[:i], [][]int{c[i][:k], c[i][k:]}, c[i+1:]),
		slices.Concat(c[:i], [][]int{append(slices.Clone(c[i]), c[other]...)}, c[i+1:]),
		change(func(c [][]int) { c[i] = slices.Delete(c[i], k, k+1) }),
		change(func(c [][]int) { c[i] = append(c[i], c[other][place]) }),
		change(func(c [][]int) { c[i][k], c[other][place] = c[other][place], c[i][k] }),
		change(func(c [][]int) { c[i][k] = c[other][place] }),
		change(func(c [][]int) {
			c[i] = append(c[i], c[other][place])
			c[other] = slices.Delete(c[other], place, place+1)
		}),
	}
	for _, j := range []int{math.MinInt, -1, n, n + 1, 63, 64, 1 << 32, math.MaxInt} {
		if j < 0 || j >= n {
			l = append(l, change(func(c [][]int) { c[i][k] = j }), change(func(c [][]int) { c[i] = append(c[i], j) }), slices.Concat(c, [][]int{{j}}))
		}
	}
	return l
}

// P9.1: resolutions in any order, and what differs a little from them.
func TestClassesOfKnownResolutions(t *testing.T) {
	source := rand.New(rand.NewSource(4))
	for _, r := range knownResolutions() {
		if !checkClasses(t, r.x, r.c) || !checkClasses(t, r.x, shuffled(source, r.c)) {
			t.Errorf("%v is no resolution of %v", r.c, r.x)
		}
		for _, c := range altered(source, r.c, len(r.x.B)) {
			checkClasses(t, r.x, c)
		}
	}
}

// P9.1: structures without blocks, and with empty ones, have no resolutions.
func TestEmptyBlocksHaveNoResolution(t *testing.T) {
	for v := 1; v <= 16; v++ {
		full := uint64(1)<<v - 1
		for _, c := range []struct {
			x api.Inc
			l [][][]int
		}{
			{structure(v), [][][]int{nil, {}, {{}}, {{0}}}},
			{structure(v, 0), [][][]int{nil, {{}}, {{0}}}},
			{structure(v, 0, full), [][][]int{{{0, 1}}, {{1, 0}}, {{0}, {1}}, {{1}}}},
			{structure(v, 0, 0, full, full), [][][]int{{{0, 2}, {1, 3}}, {{2, 0, 1}, {3}}, {{2}, {3}}}},
		} {
			for _, l := range c.l {
				if checkClasses(t, c.x, l) {
					t.Errorf("%v is a resolution of %v", l, c.x)
				}
			}
			checkResolve(t, c.x, nil)
		}
	}
}

// checkResolve fails the test unless Resolve returns want, or ErrNone if this is
// nothing.
func checkResolve(t *testing.T, x api.Inc, want [][]int) {
	t.Helper()
	wantErr := api.OK
	if len(want) == 0 {
		wantErr = api.ErrNone
	}
	if c, err := design.Resolve(x); !same(c, want) || err != wantErr {
		t.Errorf("Resolve of %v: %v, error %d, not %v", x, c, err, want)
	}
}

// orderedPartitions returns all partitions of 0 to n - 1 into classes, with
// classes and their first elements increasing.
func orderedPartitions(n int) [][][]int {
	if n == 0 {
		return [][][]int{nil}
	}
	var l [][][]int
	for _, c := range orderedPartitions(n - 1) {
		for i := range c {
			longer := slices.Clone(c)
			longer[i] = append(slices.Clone(c[i]), n-1)
			l = append(l, longer)
		}
		l = append(l, append(slices.Clone(c), []int{n - 1}))
	}
	return l
}

// P9.1: Resolve of small structures, whose first resolution is looked for among
// all of them.
func TestResolveOfSmallStructures(t *testing.T) {
	var partitions [][][][]int
	for n := range 7 {
		partitions = append(partitions, orderedPartitions(n))
		slices.SortFunc(partitions[n], compareResolutions)
	}
	found := 0
	for _, x := range slices.Concat(families(1, 6), families(2, 6), families(3, 5), families(4, 3)) {
		var want [][]int
		for _, c := range partitions[len(x.B)] {
			if isResolutionByHand(x, c) {
				want = c
				found++
				break
			}
		}
		checkResolve(t, x, want)
		if other, is := firstResolution(x); !same(other, want) || is != (len(want) > 0) {
			t.Errorf("the tests find two first resolutions of %v: %v and %v", x, want, other)
		}
	}
	if found < 50 {
		t.Errorf("only %d resolutions", found)
	}
}

// isFirstClass reports whether l is the first class with the block 0, whatever
// is left.
func isFirstClass(x api.Inc, l []int) bool {
	for places := uint64(1); places < 1<<len(x.B); places += 2 {
		if isClass(x, places) && slices.Compare(pointsOf(places), l) < 0 {
			return false
		}
	}
	return true
}

// P9.1: Resolve of structures with a resolution.
func TestResolveOfResolvedStructures(t *testing.T) {
	tried, turns := 0, 0
	for _, r := range knownResolutions() {
		if len(r.x.B) > 14 {
			continue
		}
		want, is := firstResolution(r.x)
		if !is {
			t.Fatalf("the tests do not find a resolution of %v", r.x)
		}
		checkResolve(t, r.x, want)
		tried++
		if !isFirstClass(r.x, want[0]) {
			turns++
		}
	}
	if tried < 500 || turns < 10 {
		t.Errorf("%d structures, %d of them without a resolution with the first class", tried, turns)
	}
}

// P9.1: Resolve of what may have none.
func TestResolveOfOthers(t *testing.T) {
	source := rand.New(rand.NewSource(5))
	found := [2]int{}
	var l []api.Inc
	for _, s := range samples() {
		l = append(l, s.x)
	}
	for _, r := range resolvedOnes(source, 14) {
		l = append(l, changed(source, r.x)...)
	}
	for _, x := range l {
		if len(x.B) > 14 {
			continue
		}
		want, is := firstResolution(x)
		checkResolve(t, x, want)
		if is {
			found[1]++
		} else {
			found[0]++
		}
	}
	if found[0] < 500 || found[1] < 100 {
		t.Errorf("%d structures without, %d with a resolution", found[0], found[1])
	}
}

// P9.1: values that were found by hand.
func TestResolveByHand(t *testing.T) {
	for _, c := range []struct {
		x api.Inc
		c [][]int
	}{
		{structure(1, 1, 1, 1), [][]int{{0}, {1}, {2}}},
		{structure(2, 1, 1, 2, 2), [][]int{{0, 2}, {1, 3}}},
		{structure(2, 1, 2, 3), [][]int{{0, 1}, {2}}},
		{structure(3, 1, 2, 3, 4, 5, 6), [][]int{{0, 5}, {1, 4}, {2, 3}}},
		{structure(3, 1, 1, 2, 4, 6), [][]int{{0, 2, 3}, {1, 4}}},
		// The four points come first, but leave {0, 1}, {0, 2, 3} and {1, 2, 3}.
		{structure(4, 1, 2, 3, 4, 8, 13, 14), [][]int{{0, 6}, {1, 5}, {2, 3, 4}}},
		{structure(16, slices.Repeat([]uint64{1<<16 - 1}, 14)...), [][]int{{0}, {1}, {2}, {3}, {4}, {5}, {6}, {7}, {8}, {9}, {10}, {11}, {12}, {13}}},
		{structure(14, parts(1<<14-1, 1)...), [][]int{upTo(14)}},
		{translates(7, []int{0, 1, 3}), nil},
		{structure(3, 3, 5, 6), nil},
		{structure(3, 1, 2), nil},
		{structure(2, 1, 2, 2), nil},
		// One class is there, but it does not have the first block.
		{structure(3, 1, 7), nil},
		// This takes many steps, since 5 and 5 blocks have to be put to 4.
		{structure(13, 1, 1, 1, 1, 4, 4, 4, 4, 4, 8186, 8186, 8186, 8186, 8186), nil},
	} {
		checkResolve(t, c.x, c.c)
	}
}

// P9.1: more than 14 blocks are too many, whatever they are.
func TestTooManyBlocksAreNotResolved(t *testing.T) {
	for v := 1; v <= 16; v++ {
		full := uint64(1)<<v - 1
		for n := 1; n <= 64; n++ {
			for _, b := range []uint64{0, full} {
				x := structure(v, append(slices.Repeat([]uint64{full}, n-1), b)...)
				c, err := design.Resolve(x)
				want := api.OK
				switch {
				case n > 14:
					want = api.ErrBig
				case b == 0:
					want = api.ErrNone
				}
				if err != want || err != api.OK && len(c) != 0 || err == api.OK && len(c) != n {
					t.Errorf("Resolve of %v: %v, error %d, not %d", x, c, err, want)
				}
			}
		}
	}
}
