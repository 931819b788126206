package seal_test

import (
	"math"
	"slices"
	"testing"

	"plexus/api"
	"plexus/seal"
)

// leaves returns n different digests.
func leaves(n int) []uint64 {
	l := make([]uint64, n)
	for i := range l {
		l[i] = seal.Words([]int{i})
	}
	return l
}

// level joins neighbours; the last digest of an odd number goes up as it is.
// Level by level, this makes the trees of the chapter from the leaves on.
func level(l []uint64) []uint64 {
	var up []uint64
	for pair := range slices.Chunk(l, 2) {
		if len(pair) == 2 {
			up = append(up, follow(0x6a6f696e, pair...))
		} else {
			up = append(up, pair[0])
		}
	}
	return up
}

// rootByHand returns the root of a list that is not empty.
func rootByHand(l []uint64) uint64 {
	for len(l) > 1 {
		l = level(l)
	}
	return l[0]
}

// pathsByHand returns the paths of all places.
func pathsByHand(l []uint64) [][]uint64 {
	paths := make([][]uint64, len(l))
	for height := 0; len(l) > 1; height++ {
		for i := range paths {
			if next := i>>height ^ 1; next < len(l) {
				paths[i] = append(paths[i], l[next])
			}
		}
		l = level(l)
	}
	return paths
}

// node is a pair of digests on the way from a leaf to the root.
type node struct {
	pair [2]uint64
	left bool // whether the way comes from the left half
}

func (x node) join() uint64 { return seal.Join(x.pair[0], x.pair[1]) }

// way returns the pairs on the way from a leaf at the place i of n, and where
// it leads. The path has to be as long as the way.
func way(n, i int, leaf uint64, path []uint64) ([]node, uint64) {
	var l []node
	for ; n > 1; n, i = (n+1)/2, i/2 {
		if i == n-1 && i%2 == 0 {
			continue
		}
		x := node{pair: [2]uint64{leaf, path[len(l)]}, left: true}
		if i%2 == 1 {
			x = node{pair: [2]uint64{path[len(l)], leaf}}
		}
		l = append(l, x)
		leaf = x.join()
	}
	return l, leaf
}

func open(t *testing.T, l []uint64, i int) []uint64 {
	t.Helper()
	path, err := seal.Open(l, i)
	if err != api.OK {
		t.Fatalf("path of %d in %d leaves: error %d", i, len(l), err)
	}
	return path
}

// sizes are numbers of leaves: all small ones, and some around powers of 2.
func sizes() []int {
	l := []int{127, 128, 129, 1000, 2047, 2048, 2049, 3072, 4095, 4096}
	for n := 1; n <= 70; n++ {
		l = append(l, n)
	}
	return l
}

// forPlaces runs a test for places of trees of all sizes: all of small trees,
// and of others the first and the last ones and some between them.
func forPlaces(test func(l []uint64, root uint64, i int)) {
	for _, n := range sizes() {
		l := leaves(n)
		root := seal.Root(l)
		for i := range n {
			if n <= 40 || i < 3 || i >= n-3 || i%(n/7) < 2 {
				test(l, root, i)
			}
		}
	}
}

// P3.1: roots.
func TestRoot(t *testing.T) {
	count := func(n int) []uint64 {
		l := make([]uint64, n)
		for i := range l {
			l[i] = uint64(i)
		}
		return l
	}
	for _, c := range []struct {
		l    []uint64
		want uint64
	}{
		{nil, 0x7892c2b1b36579a2},
		{[]uint64{}, seal.Words(nil)},
		{[]uint64{5}, 5},
		{[]uint64{0}, 0},
		{[]uint64{5, 6}, seal.Join(5, 6)},
		{[]uint64{5, 6, 7}, seal.Join(seal.Join(5, 6), 7)},
		{[]uint64{5, 6, 7}, 0x1074bec2f68efb71},
		{count(7), 0xe3ada2052d6bcd2c},
		{count(4096), 0x4c47a3a166cb746a},
		{count(5000), 0x7d7c0361730df778}, // more than Check admits
	} {
		if got := seal.Root(c.l); got != c.want {
			t.Errorf("root of %d digests: %x, not %x", len(c.l), got, c.want)
		}
	}
	for _, n := range sizes() {
		if got, want := seal.Root(leaves(n)), rootByHand(leaves(n)); got != want {
			t.Errorf("root of %d leaves: %x, not %x", n, got, want)
		}
	}
}

// P3.1: paths.
func TestOpen(t *testing.T) {
	for i, want := range [][]uint64{{6, 7}, {5, 7}, {seal.Join(5, 6)}} {
		if got := open(t, []uint64{5, 6, 7}, i); !slices.Equal(got, want) {
			t.Errorf("path of %d in 5, 6, 7: %x", i, got)
		}
	}
	if got := open(t, []uint64{5}, 0); len(got) != 0 {
		t.Errorf("path in a tree of one leaf: %x", got)
	}
	for _, n := range append(sizes(), 4097, 5000) {
		l := leaves(n)
		paths := pathsByHand(l)
		for i := 0; i < n; i += 1 + n/100 {
			if got := open(t, l, i); !slices.Equal(got, paths[i]) {
				t.Errorf("path of %d in %d leaves: %x, not %x", i, n, got, paths[i])
			}
		}
	}
}

// P3.1: places that there are not.
func TestOpenRefuses(t *testing.T) {
	for _, n := range []int{0, 1, 2, 5, 8} {
		for _, i := range []int{-1, n, n + 1, math.MinInt, math.MaxInt} {
			if path, err := seal.Open(leaves(n), i); len(path) != 0 || err != api.ErrArg {
				t.Errorf("path of %d in %d leaves: %x, error %d", i, n, path, err)
			}
		}
	}
	if path, err := seal.Open(nil, 0); len(path) != 0 || err != api.ErrArg {
		t.Errorf("path in an empty list: %x, error %d", path, err)
	}
}

// P3.5: the path of each place is accepted.
func TestPathsAreAccepted(t *testing.T) {
	for _, n := range sizes() {
		l := leaves(n)
		root := seal.Root(l)
		for i, leaf := range l {
			if err := seal.Check(root, n, api.Place{I: i, Leaf: leaf}, open(t, l, i)); err != api.OK {
				t.Fatalf("path of %d in %d leaves: error %d", i, n, err)
			}
		}
	}
	same := make([]uint64, 9) // all leaves are equal
	for i := range same {
		if err := seal.Check(seal.Root(same), 9, api.Place{I: i}, open(t, same, i)); err != api.OK {
			t.Errorf("path of %d in equal leaves: error %d", i, err)
		}
	}
}

// P3.5: another leaf is refused, and so are a path with one changed digest,
// and another root.
func TestChangesAreRefused(t *testing.T) {
	changes := []uint64{1, 1 << 29, 1 << 63, math.MaxUint64}
	forPlaces(func(l []uint64, root uint64, i int) {
		n, path := len(l), open(t, l, i)
		for _, by := range changes {
			if err := seal.Check(root, n, api.Place{I: i, Leaf: l[i] ^ by}, path); err != api.ErrNot {
				t.Errorf("%d of %d, with another leaf: error %d", i, n, err)
			}
			if err := seal.Check(root^by, n, api.Place{I: i, Leaf: l[i]}, path); err != api.ErrNot {
				t.Errorf("%d of %d, with another root: error %d", i, n, err)
			}
			for k := range path {
				changed := slices.Clone(path)
				changed[k] ^= by
				if err := seal.Check(root, n, api.Place{I: i, Leaf: l[i]}, changed); err != api.ErrNot {
					t.Errorf("%d of %d, with another digest %d: error %d", i, n, k, err)
				}
			}
		}
	})
}

// P3.1: a leaf is refused at another place, and with a path of another length.
func TestOtherPathsAreRefused(t *testing.T) {
	forPlaces(func(l []uint64, root uint64, i int) {
		n, path := len(l), open(t, l, i)
		for _, k := range []int{0, i - 1, i + 1, i ^ 1, n - 1} {
			if k < 0 || k >= n || k == i {
				continue
			}
			if err := seal.Check(root, n, api.Place{I: k, Leaf: l[i]}, path); err != api.ErrNot {
				t.Errorf("%d of %d at the place %d: error %d", i, n, k, err)
			}
		}
		others := [][]uint64{append(slices.Clone(path), 0), append([]uint64{0}, path...), append(slices.Clone(path), root), make([]uint64, 5000)}
		if len(path) > 0 {
			others = append(others, nil, path[1:], path[:len(path)-1])
		}
		for _, other := range others {
			if len(other) == len(path) {
				continue
			}
			if err := seal.Check(root, n, api.Place{I: i, Leaf: l[i]}, other); err != api.ErrNot {
				t.Errorf("%d of %d, with a path of %d digests: error %d", i, n, len(other), err)
			}
		}
	})
}

// P3.1: the number of digests matters even where the root is right: no digest
// on the way passes for a leaf, and no leaf for one that is higher up.
func TestHeightsAreRefused(t *testing.T) {
	l := leaves(4)
	a, b := seal.Join(l[0], l[1]), seal.Join(l[2], l[3])
	root := seal.Root(l)
	for _, c := range []struct {
		n    int
		leaf uint64
		path []uint64
		want api.Errno
	}{
		{4, l[0], []uint64{l[1], b}, api.OK},
		{4, a, []uint64{b}, api.ErrNot},
		{4, root, nil, api.ErrNot},
		{2, l[0], []uint64{l[1], b}, api.ErrNot},
		{2, a, []uint64{b}, api.OK},
		{1, l[0], []uint64{l[1], b}, api.ErrNot},
		{1, a, []uint64{b}, api.ErrNot},
		{1, root, []uint64{0}, api.ErrNot},
		{1, root, nil, api.OK},
		{1, a, nil, api.ErrNot},
		{3, l[0], []uint64{l[1], b}, api.OK}, // as of the leaves 0, 1 and b
		{5, l[0], []uint64{l[1], b}, api.ErrNot},
	} {
		if err := seal.Check(root, c.n, api.Place{Leaf: c.leaf}, c.path); err != c.want {
			t.Errorf("%x as one of %d, with a path of %d digests: error %d", c.leaf, c.n, len(c.path), err)
		}
	}
}

// P3.1: places that there are not, and trees that are too large, whatever else
// is wrong.
func TestCheckRefusesArguments(t *testing.T) {
	for _, c := range []struct{ n, i int }{
		{0, 0}, {0, -1}, {0, 1}, {1, 1}, {1, -1}, {5, 5}, {5, -1}, {5, 6}, {4096, 4096}, {4096, -1},
		{4097, 0}, {4097, 4096}, {4097, 4097}, {5000, 17}, {-1, 0}, {-1, -2}, {-5, -6},
		{math.MinInt, 0}, {math.MinInt, math.MinInt}, {math.MinInt, -1}, {math.MinInt, math.MaxInt},
		{math.MaxInt, 0}, {math.MaxInt, math.MaxInt}, {math.MaxInt, math.MaxInt - 1}, {5, math.MinInt}, {5, math.MaxInt},
	} {
		for _, path := range [][]uint64{nil, {1}, make([]uint64, 13)} {
			if err := seal.Check(7, c.n, api.Place{I: c.i, Leaf: 7}, path); err != api.ErrArg {
				t.Errorf("place %d of %d: error %d", c.i, c.n, err)
			}
		}
	}
	large := leaves(4097)
	if err := seal.Check(seal.Root(large), 4097, api.Place{I: 9, Leaf: large[9]}, open(t, large, 9)); err != api.ErrArg {
		t.Errorf("a right path in 4097 leaves: error %d", err)
	}
	if err := seal.Check(7, 4096, api.Place{I: 4095, Leaf: 7}, nil); err != api.ErrNot {
		t.Errorf("a wrong path in 4096 leaves: error %d", err)
	}
}

// forge returns a path that leads from another leaf to the same root: the pair
// at the height k is completed to one with the right join.
func forge(n, i int, leaf, other uint64, path []uint64, k int) []uint64 {
	right, _ := way(n, i, leaf, path)
	wrong, _ := way(n, i, other, path)
	forged := slices.Clone(path)
	join := right[k].join()
	if wrong[k].left {
		forged[k] = seal.Back(seal.Step(0x6a6f696e, wrong[k].pair[0]), join)
	} else {
		// A step treats the digest and the word alike.
		forged[k] = seal.Back(0x6a6f696e, seal.Back(wrong[k].pair[1], join))
	}
	return forged
}

// collide reports whether two different pairs with one join are on two ways, at
// one height.
func collide(v, w []node) bool {
	for k := range v {
		if v[k].pair != w[k].pair && v[k].join() == w[k].join() {
			return true
		}
	}
	return false
}

// P3.6: two leaves are accepted at one place exactly if their ways lead to the
// root, and then two different pairs with one join are on them.
func TestTwoLeavesNeedACollision(t *testing.T) {
	forged := 0
	forPlaces(func(l []uint64, root uint64, i int) {
		n, path := len(l), open(t, l, i)
		first, end := way(n, i, l[i], path)
		if len(first) != len(path) || end != root {
			t.Fatalf("the way from %d of %d leads to %x, not %x", i, n, end, root)
		}
		for _, other := range []uint64{l[i] + 1, 0, root} {
			paths := [][]uint64{path}
			for k := range path {
				paths = append(paths, forge(n, i, l[i], other, path, k))
			}
			for _, p := range paths {
				second, end := way(n, i, other, p)
				accepted := seal.Check(root, n, api.Place{I: i, Leaf: other}, p) == api.OK
				if accepted != (end == root) {
					t.Errorf("%x as %d of %d, whose way leads to %x: accepted is %t", other, i, n, end, accepted)
				}
				if !accepted || other == l[i] {
					continue
				}
				forged++
				if !collide(first, second) {
					t.Errorf("%x and %x are both accepted as %d of %d", l[i], other, i, n)
				}
			}
		}
	})
	if forged < 1000 {
		t.Errorf("only %d forged paths are accepted", forged)
	}
}

// P3.1 (C4): lists and paths stay as they are, also behind their ends, and a
// path shares no memory with the list.
func TestTreesAreNotModified(t *testing.T) {
	for n := 1; n <= 9; n++ {
		l := leaves(12)
		for i := range n {
			path := open(t, l[:n], i)
			kept := append(slices.Clone(path), 1, 2, 3)
			seal.Check(seal.Root(l[:n]), n, api.Place{I: i, Leaf: l[i]}, kept[:len(path)])
			if !slices.Equal(kept, append(slices.Clone(path), 1, 2, 3)) {
				t.Errorf("the path of %d in %d leaves is modified", i, n)
			}
			for k := range path {
				path[k] = 0
			}
			clear(path[:cap(path)])
		}
		if !slices.Equal(l, leaves(12)) {
			t.Errorf("the list of %d leaves is modified", n)
		}
	}
}
