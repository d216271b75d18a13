package merkle

import (
	"math/bits"

	"scrivener/api"
	"scrivener/digest"
)

// half is {level, place}: as many leaves as 2 to the level, behind place times as many others. The last one of a tree may have fewer.
type half [2]int

// lastHalf is the last one of those whole halves, each as great as can be, that the first so many leaves are made of.
func lastHalf(size int) half {
	level := bits.TrailingZeros(uint(size))
	return half{level, size>>level - 1}
}

func (h half) begin() int    { return h[1] << h[0] }
func (h half) end() int      { return (h[1] + 1) << h[0] }
func (h half) isFirst() bool { return h[1] == 0 }
func (h half) isLeft() bool  { return h[1]&1 == 0 }

// others are the halves that stand beside the way from this one up to the root of so many leaves. Where no leaf stands on the right of the way, it goes up alone.
func (h half) others(size int) []half {
	var out []half
	for level, place := h[0], h[1]; level < bits.Len(uint(size-1)); level, place = level+1, place>>1 {
		other := half{level, place ^ 1}
		if other.begin() < size {
			out = append(out, other)
		}
	}
	return out
}

// join is the node of this half's root and that of what stands beside it.
func (h half) join(own, beside api.Hash) api.Hash {
	if h.isLeft() {
		return digest.Node(own, beside)
	}
	return digest.Node(beside, own)
}

// meet tells whether roots of halves and what they stand beside make a, of the halves on the left alone, and b, of all.
func meet(halves []half, beside api.Hash, roots []api.Hash, a, b api.Hash) bool {
	if len(roots) != len(halves) {
		return false
	}
	older, newer := beside, beside
	for n, h := range halves {
		newer = h.join(roots[n], newer)
		if h.isLeft() {
			older = h.join(roots[n], older)
		}
	}
	return older == a && newer == b
}
