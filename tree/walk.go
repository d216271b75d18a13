package tree

import "strings"

// read lets walk go through the nodes as they are now: whoever changes the tree meanwhile leaves them as they are (own). They are given back also where the one who asks panics, for else the next change would make all of them anew.
func (t *Tree) read(walk func(root *node)) {
	if t == nil || t.root == nil {
		return
	}
	root := t.root
	root.readers++
	defer func() { root.readers-- }()
	walk(root)
}

// rise hands on the texts not below from and below to, from leaf to leaf.
func (n *node) rise(from, to string, hand func(string, int) bool) {
	leaf := n.leaf(from)
	i, _ := leaf.seek(from)
	for ; leaf != nil; leaf, i = leaf.next, 0 {
		for _, s := range leaf.slots[i:leaf.count] {
			if to != "" && s.text >= to || !hand(strings.Clone(s.text), s.number) {
				return
			}
		}
	}
}

// fall hands on the same from the last one down; whether it went on to the first text under n.
func (n *node) fall(from, to string, hand func(string, int) bool) bool {
	end := n.count
	if to != "" {
		end, _ = n.seek(to)
	}
	for i := end - 1; i >= 0; i-- {
		s := n.slots[i]
		if n.level > 0 {
			if !s.kid.fall(from, to, hand) {
				return false
			}
		} else if s.text < from || !hand(strings.Clone(s.text), s.number) {
			return false
		}
	}
	return true
}
