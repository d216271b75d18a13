package merkle

import (
	"math/bits"

	"scrivener/api"
	"scrivener/digest"
)

// keep keeps the root of each half that the last leaf makes whole.
func (t *Tree) keep(leaf api.Hash) {
	if t.halves == nil {
		t.halves = map[half]api.Hash{}
	}
	count, root := len(t.leaves), leaf
	for level := range bits.TrailingZeros(uint(count)) {
		left := half{level, count>>level - 2}
		root = digest.Node(t.whole(left), root)
		t.halves[half{level + 1, left[1] >> 1}] = root
	}
}

// whole is the root of a whole half.
func (t *Tree) whole(h half) api.Hash {
	if h[0] == 0 {
		return t.leaves[h[1]]
	}
	return t.halves[h]
}

// root is the root of the leaves from one to ahead of another; they stand at the beginning of a half that has them all.
func (t *Tree) root(from, to int) api.Hash {
	level := bits.Len(uint(to-from)) - 1
	first := half{level, from >> level}
	if first.end() == to {
		return t.whole(first)
	}
	return digest.Node(t.whole(first), t.root(first.end(), to))
}

// roots are the roots of halves, as far as their leaves are among the first so many.
func (t *Tree) roots(halves []half, size int) []api.Hash {
	out := make([]api.Hash, len(halves))
	for n, h := range halves {
		out[n] = t.root(h.begin(), min(h.end(), size))
	}
	return out
}
