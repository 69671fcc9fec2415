package tree

import (
	"cmp"
	"slices"

	"selvedge/api"
)

// These keep a list of any type in order: by a key of each, that rises.

// rise: do the keys of a list rise?
func rise[T any, K cmp.Ordered](l []T, key func(T) K) bool {
	for i := 1; i < len(l); i++ {
		if key(l[i-1]) >= key(l[i]) {
			return false
		}
	}
	return true
}

// seek is where in a list a key stands, or would stand; whether it is there.
func seek[T any, K cmp.Ordered](l []T, k K, key func(T) K) (int, bool) {
	return slices.BinarySearchFunc(l, k, func(x T, k K) int { return cmp.Compare(key(x), k) })
}

// with is a list of its own with one more, whose key is not there.
func with[T any, K cmp.Ordered](l []T, x T, key func(T) K) []T {
	i, _ := seek(l, key(x), key)
	return slices.Concat(l[:i], []T{x}, l[i:])
}

// without is a list of its own with one less, whose key is there.
func without[T any, K cmp.Ordered](l []T, k K, key func(T) K) []T {
	i, _ := seek(l, k, key)
	return slices.Concat(l[:i], l[i+1:])
}

// pathOf is the key by which nodes are in order.
func pathOf(n api.Node) string {
	return n.Path
}

// at is the node of a path, among such as are in order.
func at(t []api.Node, path string) (api.Node, bool) {
	i, ok := seek(t, path, pathOf)
	if !ok {
		return api.Node{}, false
	}
	return t[i], true
}
