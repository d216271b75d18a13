package tree

// find is the slot of a text; nil, if it is not there.
func (t *Tree) find(text string) *slot {
	if t == nil || t.root == nil {
		return nil
	}
	leaf := t.root.leaf(text)
	i, is := leaf.seek(text)
	if !is {
		return nil
	}
	return &leaf.slots[i]
}

// own leaves the nodes to those who go through them, and takes others for what is changed from now on.
func (t *Tree) own() {
	if t.root != nil && t.root.readers > 0 {
		t.root = t.root.clone()
	}
}

// grow is one more node of the tree.
func (t *Tree) grow(level int) *node {
	t.nodes++
	return &node{level: level}
}

// add lays a text that is not there.
func (t *Tree) add(s slot) {
	if t.root == nil {
		t.root = t.grow(0)
	}
	if right := t.put(t.root, s); right != nil {
		t.raise(right)
	}
	t.texts++
}

// raise gives the tree a new root over its root and the node behind it.
func (t *Tree) raise(right *node) {
	root := t.grow(t.root.level + 1)
	for i, kid := range []*node{t.root, right} {
		root.lay(i, slot{kid: kid})
		root.name(i)
	}
	t.root = root
}

// put lays a text that is not there under n. If n was full, a new node has a part of it, and comes behind it.
func (t *Tree) put(n *node, s slot) *node {
	if n.level == 0 {
		i, _ := n.seek(s.text)
		return t.insert(n, i, s)
	}
	i := n.under(s.text)
	right := t.put(n.slots[i].kid, s)
	n.name(i)
	if right == nil {
		return nil
	}
	return t.insert(n, i+1, slot{text: right.slots[0].text, kid: right})
}

// insert lays a slot at place i of n, or of the two that n becomes if it is full.
func (t *Tree) insert(n *node, i int, s slot) *node {
	if n.count < width {
		n.lay(i, s)
		return nil
	}
	right := t.split(n)
	if i <= half {
		n.lay(i, s)
	} else {
		right.lay(i-half, s)
	}
	return right
}

// split moves what a full node has beyond its half to a new one behind it.
func (t *Tree) split(n *node) *node {
	right := t.grow(n.level)
	right.count = copy(right.slots[:], n.slots[half:])
	clear(n.slots[half:])
	n.count = half
	if n.level == 0 {
		right.next, n.next = n.next, right
	}
	return right
}

// remove takes away a text that is there. No tree has an empty root, or one with a single kid.
func (t *Tree) remove(text string) {
	t.pull(t.root, text)
	t.texts--
	switch {
	case t.root.count == 0:
		t.root = nil
		t.nodes--
	case t.root.count == 1 && t.root.level > 0:
		t.root = t.root.slots[0].kid
		t.nodes--
	}
}

// pull takes away a text that is under n.
func (t *Tree) pull(n *node, text string) {
	if n.level == 0 {
		i, _ := n.seek(text)
		n.take(i)
		return
	}
	i := n.under(text)
	kid := n.slots[i].kid
	t.pull(kid, text)
	n.name(i)
	if kid.count < half {
		t.mend(n, max(i-1, 0))
	}
}

// mend makes the kids at i and i+1, of which one has too little, one kid, or where that were too much, lets one slot change over.
func (t *Tree) mend(n *node, i int) {
	left, right := n.slots[i].kid, n.slots[i+1].kid
	switch {
	case left.count+right.count <= width:
		left.count += copy(left.slots[left.count:], right.slots[:right.count])
		left.next = right.next
		n.take(i + 1)
		t.nodes--
		return
	case left.count < right.count:
		left.lay(left.count, right.take(0))
	default:
		right.lay(0, left.take(left.count-1))
	}
	n.name(i + 1)
}
