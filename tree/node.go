package tree

import (
	"slices"
	"strings"
)

// A node but the root has at least half slots. Half is at least 2, so each level has at most half as many nodes as the one below it, and the leaves are at most half as many as the texts: P13.3 hangs on this alone.
const (
	width = 16
	half  = width / 2
)

// A slot of a leaf is a text with its number; any other slot is a kid with the least text under it. That text is always one that is there: a bound that outlives its text would keep what was taken away.
type slot struct {
	text   string
	number int
	kid    *node
}

// A node has its slots by their texts, rising; those behind count are zero.
type node struct {
	level   int // 0 for a leaf, else 1 more than that of the kids
	count   int
	slots   [width]slot
	next    *node // the leaf behind a leaf
	readers int   // of a root: how many go through its tree now
}

// seek is the first place with a text that is not below text, and whether it is that text.
func (n *node) seek(text string) (int, bool) {
	return slices.BinarySearchFunc(n.slots[:n.count], text, func(s slot, text string) int {
		return strings.Compare(s.text, text)
	})
}

// under is the place of the kid that text belongs to. A text below all others belongs to the first.
func (n *node) under(text string) int {
	i, is := n.seek(text)
	if is || i == 0 {
		return i
	}
	return i - 1
}

// leaf is the leaf that text belongs to.
func (n *node) leaf(text string) *node {
	for n.level > 0 {
		n = n.slots[n.under(text)].kid
	}
	return n
}

// lay puts a slot at place i of a node that is not full.
func (n *node) lay(i int, s slot) {
	copy(n.slots[i+1:], n.slots[i:n.count])
	n.slots[i] = s
	n.count++
}

// take takes the slot at place i away.
func (n *node) take(i int) slot {
	s := n.slots[i]
	copy(n.slots[i:], n.slots[i+1:n.count])
	n.count--
	n.slots[n.count] = slot{}
	return s
}

// name sets the text of the kid at place i anew.
func (n *node) name(i int) {
	n.slots[i].text = n.slots[i].kid.slots[0].text
}

// clone is n and all that is under it in new memory; nil of nil.
func (n *node) clone() *node {
	var behind *node
	return n.cloneBefore(&behind)
}

// cloneBefore goes from the last leaf to the first one, so that each of them finds the one behind it made already.
func (n *node) cloneBefore(behind **node) *node {
	if n == nil {
		return nil
	}
	c := &node{level: n.level, count: n.count, slots: n.slots}
	if n.level == 0 {
		c.next, *behind = *behind, c
		return c
	}
	for i := n.count - 1; i >= 0; i-- {
		c.slots[i].kid = n.slots[i].kid.cloneBefore(behind)
	}
	return c
}
