package tree

import (
	"fmt"
	"iter"
	"math/bits"
	"slices"
	"testing"
)

// The chapter written out a second time: a plain sorted list, gone through from its beginning by each call.

type pair struct {
	text   string
	number int
}

type list struct{ pairs []pair }

func (l *list) put(text string, n int) (int, bool) {
	i := 0
	for i < len(l.pairs) && l.pairs[i].text < text {
		i++
	}
	if i < len(l.pairs) && l.pairs[i].text == text {
		old := l.pairs[i].number
		l.pairs[i].number = n
		return old, true
	}
	l.pairs = slices.Insert(l.pairs, i, pair{text, n})
	return 0, false
}

func (l *list) get(text string) (int, bool) {
	for _, p := range l.pairs {
		if p.text == text {
			return p.number, true
		}
	}
	return 0, false
}

func (l *list) delete(text string) (int, bool) {
	for i, p := range l.pairs {
		if p.text == text {
			l.pairs = slices.Delete(l.pairs, i, i+1)
			return p.number, true
		}
	}
	return 0, false
}

func (l *list) between(from, to string) []pair {
	var out []pair
	for _, p := range l.pairs {
		if p.text >= from && (to == "" || p.text < to) {
			out = append(out, p)
		}
	}
	return out
}

func (l *list) copy() *list { return &list{slices.Clone(l.pairs)} }

// all is what a sequence hands on.
func all(seq iter.Seq2[string, int]) []pair {
	var out []pair
	for text, n := range seq {
		out = append(out, pair{text, n})
	}
	return out
}

// first is what a sequence hands on to one who ends it behind count texts.
func first(seq iter.Seq2[string, int], count int) []pair {
	var out []pair
	for text, n := range seq {
		if out = append(out, pair{text, n}); len(out) == count {
			break
		}
	}
	return out
}

// told is what stands in a list, cut short.
func told(l []pair) string {
	out := ""
	for _, p := range l {
		out += fmt.Sprintf("%q %d, ", p.text, p.number)
	}
	return fmt.Sprintf("%d: %.300s", len(l), out)
}

func falling(l []pair) []pair {
	l = slices.Clone(l)
	slices.Reverse(l)
	return l
}

// sameRange holds Range and Back between two texts against the list's.
func sameRange(t *testing.T, x *Tree, l *list, from, to string) {
	t.Helper()
	want := l.between(from, to)
	if got := all(x.Range(from, to)); !slices.Equal(got, want) {
		t.Fatalf("Range(%q, %q): %s, not %s", from, to, told(got), told(want))
	}
	if got := all(x.Back(from, to)); !slices.Equal(got, falling(want)) {
		t.Fatalf("Back(%q, %q): %s, not %s", from, to, told(got), told(falling(want)))
	}
}

// same holds all of a tree against the list, and its shape against P13.3.
func same(t *testing.T, x *Tree, l *list) {
	t.Helper()
	sameRange(t, x, l, "", "")
	for _, p := range l.pairs {
		if n, ok := x.Get(p.text); n != p.number || !ok {
			t.Fatalf("Get(%q): %d %v, not %d", p.text, n, ok, p.number)
		}
	}
	shaped(t, x, len(l.pairs))
	sound(t, x)
}

// shaped holds Len and Shape against how many texts there are.
func shaped(t *testing.T, x *Tree, n int) {
	t.Helper()
	deep, nodes := x.Shape()
	if x.Len() != n || deep > bits.Len(uint(n)) || nodes > n || deep < min(n, 1) || nodes < deep {
		t.Fatalf("%d texts: Len %d, Shape %d %d", n, x.Len(), deep, nodes)
	}
}

// sound looks at the nodes: what they are by the chapter's Ways, and that none keeps what is gone.
func sound(t *testing.T, x *Tree) {
	t.Helper()
	if x.root == nil {
		if x.texts != 0 || x.nodes != 0 {
			t.Fatalf("no root: %d texts, %d nodes", x.texts, x.nodes)
		}
		return
	}
	if x.root.readers != 0 {
		t.Fatalf("%d readers", x.root.readers)
	}
	if x.root.count == 0 || x.root.level > 0 && x.root.count < 2 {
		t.Fatalf("a root at level %d with %d slots", x.root.level, x.root.count)
	}
	var found looked
	found.look(t, x.root, true)
	if found.nodes != x.nodes || len(found.texts) != x.texts {
		t.Fatalf("%d nodes, told %d; %d texts, told %d", found.nodes, x.nodes, len(found.texts), x.texts)
	}
	for i := range found.texts[1:] {
		if found.texts[i] >= found.texts[i+1] {
			t.Fatalf("%q ahead of %q", found.texts[i], found.texts[i+1])
		}
	}
	for i, leaf := range found.leaves {
		var next *node
		if i+1 < len(found.leaves) {
			next = found.leaves[i+1]
		}
		if leaf.next != next {
			t.Fatalf("leaf %d of %d does not know the next one", i, len(found.leaves))
		}
	}
}

// looked is what was found on the way through the nodes.
type looked struct {
	nodes  int
	texts  []string
	leaves []*node
}

func (f *looked) look(t *testing.T, n *node, root bool) {
	t.Helper()
	f.nodes++
	if n.count > width || !root && (n.count < half || n.readers != 0) {
		t.Fatalf("a node at level %d: %d slots, %d readers", n.level, n.count, n.readers)
	}
	for i, s := range n.slots {
		if i >= n.count && s != (slot{}) {
			t.Fatalf("slot %d of %d keeps %v", i, n.count, s)
		}
	}
	if n.level == 0 {
		f.leaves = append(f.leaves, n)
	} else if n.next != nil {
		t.Fatal("no leaf, and knows a next one")
	}
	for _, s := range n.slots[:n.count] {
		if n.level == 0 {
			if s.kid != nil {
				t.Fatal("a leaf with a kid")
			}
			f.texts = append(f.texts, s.text)
			continue
		}
		if s.kid.level != n.level-1 || s.number != 0 || s.text != s.kid.slots[0].text {
			t.Fatalf("at level %d: %q %d over a kid of level %d with %q", n.level, s.text, s.number, s.kid.level, s.kid.slots[0].text)
		}
		f.look(t, s.kid, false)
	}
}

// both does one thing to a tree and to a list.
type both struct {
	x *Tree
	l *list
}

func newBoth() both { return both{New(), &list{}} }

func (b both) copy() both { return both{b.x.Copy(), b.l.copy()} }

func (b both) put(t *testing.T, text string, n int) {
	t.Helper()
	old, had := b.l.put(text, n)
	if got, ok := b.x.Put(text, n); got != old || ok != had {
		t.Fatalf("Put(%q, %d): %d %v, not %d %v", text, n, got, ok, old, had)
	}
	shaped(t, b.x, len(b.l.pairs))
}

func (b both) delete(t *testing.T, text string) {
	t.Helper()
	old, had := b.l.delete(text)
	if got, ok := b.x.Delete(text); got != old || ok != had {
		t.Fatalf("Delete(%q): %d %v, not %d %v", text, got, ok, old, had)
	}
	shaped(t, b.x, len(b.l.pairs))
}

func (b both) get(t *testing.T, text string) {
	t.Helper()
	old, had := b.l.get(text)
	if got, ok := b.x.Get(text); got != old || ok != had {
		t.Fatalf("Get(%q): %d %v, not %d %v", text, got, ok, old, had)
	}
}

// numbered is texts of one length that sort as their numbers do.
func numbered(i int) string { return fmt.Sprintf("%07d", i) }

// many is a tree and a list of the numbers from 0 on, each but the odd ones, so that there is a text between any two.
func many(t *testing.T, n int) both {
	b := newBoth()
	for i := range n {
		b.put(t, numbered(2*i), i)
	}
	return b
}
