package journal

import (
	"scrivener/api"
	"scrivener/merkle"
)

// forest is leaves in trees, of which one takes no more than so many: each one but the last is full.
type forest struct {
	trees []*merkle.Tree
}

func (f *forest) add(leaf api.Hash) {
	last := len(f.trees) - 1
	if last >= 0 && f.trees[last].Add(leaf) >= 0 {
		return
	}
	tree := merkle.New()
	tree.Add(leaf)
	f.trees = append(f.trees, tree)
}

// root is that of all leaves. A full tree has a power of two of them, so it is a whole half above, and its root is as a leaf there.
func (f *forest) root() api.Hash {
	above := merkle.New()
	for _, tree := range f.trees {
		above.Add(rootOf(tree))
	}
	return rootOf(above)
}

func rootOf(tree *merkle.Tree) api.Hash {
	// It is asked of all its leaves, so there is no error.
	root, _ := tree.Root(tree.Size())
	return root
}
