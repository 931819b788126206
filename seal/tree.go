package seal

import "plexus/api"

// Root returns the root of a list of digests (C3).
func Root(l []uint64) uint64 {
	switch len(l) {
	case 0:
		return Words(nil)
	case 1:
		return l[0]
	}
	k := half(len(l))
	return Join(Root(l[:k]), Root(l[k:]))
}

// Open returns the path of the place i in l (C3).
func Open(l []uint64, i int) ([]uint64, api.Errno) {
	if i < 0 || i >= len(l) {
		return nil, api.ErrArg
	}
	var path []uint64
	var collect func(l []uint64, i int)
	collect = func(l []uint64, i int) {
		if len(l) == 1 {
			return
		}
		k := half(len(l))
		if i < k {
			collect(l[:k], i)
			path = append(path, Root(l[k:]))
		} else {
			collect(l[k:], i-k)
			path = append(path, Root(l[:k]))
		}
	}
	collect(l, i)
	return path, api.OK
}

// Check reports whether path shows that a leaf is at its place in a list of n
// digests with this root (C3).
func Check(root uint64, n int, p api.Place, path []uint64) api.Errno {
	if p.I < 0 || p.I >= n || n > api.MaxLeaves {
		return api.ErrArg
	}
	if found, ok := climb(n, p.I, p.Leaf, path); !ok || found != root {
		return api.ErrNot
	}
	return api.OK
}

// climb returns the root that comes of the leaf at the place i of n and of a
// path; ok is false if the path has not as many elements as there are levels.
func climb(n, i int, leaf uint64, path []uint64) (root uint64, ok bool) {
	if n == 1 || len(path) == 0 {
		return leaf, n == 1 && len(path) == 0
	}
	k, last := half(n), len(path)-1
	if i < k {
		root, ok = climb(k, i, leaf, path[:last])
		return Join(root, path[last]), ok
	}
	root, ok = climb(n-k, i-k, leaf, path[:last])
	return Join(path[last], root), ok
}

// half returns the greatest power of 2 less than n, which is at least 2.
func half(n int) int {
	k := 1
	for 2*k < n {
		k *= 2
	}
	return k
}
