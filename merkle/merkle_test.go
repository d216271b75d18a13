package merkle

import (
	"crypto/sha256"
	"encoding/hex"
	"fmt"
	"math"
	"math/rand"
	"runtime"
	"slices"
	"sync"
	"testing"

	"scrivener/api"
	"scrivener/digest"
)

// The chapter, written out a second time over the library's SHA-256: roots,
// paths and consistencies by the recursions of its section 'Words'.

func chapterNode(l, r api.Hash) api.Hash {
	b := [65]byte{1}
	copy(b[1:], l[:])
	copy(b[33:], r[:])
	return sha256.Sum256(b[:])
}

// chapterPower is the greatest power of two below n.
func chapterPower(n int) int {
	k := 1
	for k < n-k {
		k += k
	}
	return k
}

func chapterRoot(l []api.Hash) api.Hash {
	switch len(l) {
	case 0:
		return sha256.Sum256(nil)
	case 1:
		return l[0]
	}
	k := chapterPower(len(l))
	return chapterNode(chapterRoot(l[:k]), chapterRoot(l[k:]))
}

func chapterPath(l []api.Hash, i int) []api.Hash {
	if len(l) == 1 {
		return nil
	}
	k := chapterPower(len(l))
	if i < k {
		return append(chapterPath(l[:k], i), chapterRoot(l[k:]))
	}
	return append(chapterPath(l[k:], i-k), chapterRoot(l[:k]))
}

func chapterSub(l []api.Hash, m int, whole bool) []api.Hash {
	if m == len(l) && whole {
		return nil
	}
	if m == len(l) {
		return []api.Hash{chapterRoot(l)}
	}
	k := chapterPower(len(l))
	if m <= k {
		return append(chapterSub(l[:k], m, whole), chapterRoot(l[k:]))
	}
	return append(chapterSub(l[k:], m-k, false), chapterRoot(l[:k]))
}

// chapterSides are those of a path, from above to below: whether the way goes
// to the left at each of its Nodes.
func chapterSides(i, n int) []bool {
	if n == 1 {
		return nil
	}
	k := chapterPower(n)
	if i < k {
		return append([]bool{true}, chapterSides(i, k)...)
	}
	return append([]bool{false}, chapterSides(i-k, n-k)...)
}

func chapterVerify(leaf api.Hash, i, size int, hashes []api.Hash, root api.Hash) bool {
	if i < 0 || size <= i || size > 1<<40 {
		return false
	}
	sides := chapterSides(i, size)
	if len(hashes) != len(sides) {
		return false
	}
	slices.Reverse(sides)
	for n, left := range sides {
		if left {
			leaf = chapterNode(leaf, hashes[n])
		} else {
			leaf = chapterNode(hashes[n], leaf)
		}
	}
	return leaf == root
}

// chapterCount is how many Hashes a consistency has.
func chapterCount(m, n int, whole bool) int {
	if m == n && whole {
		return 0
	}
	if m == n {
		return 1
	}
	k := chapterPower(n)
	if m <= k {
		return chapterCount(m, k, whole) + 1
	}
	return chapterCount(m-k, n-k, false) + 1
}

// chapterBoth is what a consistency's Hashes make: the root of the first m,
// and that of all n. With whole it is a that they begin with.
func chapterBoth(m, n int, whole bool, hashes []api.Hash, a api.Hash) (older, newer api.Hash) {
	if m == n && whole {
		return a, a
	}
	if m == n {
		return hashes[0], hashes[0]
	}
	k, rest, last := chapterPower(n), hashes[:len(hashes)-1], hashes[len(hashes)-1]
	if m <= k {
		older, newer = chapterBoth(m, k, whole, rest, a)
		return older, chapterNode(newer, last)
	}
	older, newer = chapterBoth(m-k, n-k, false, rest, a)
	return chapterNode(last, older), chapterNode(last, newer)
}

func chapterVerifyConsist(old, size int, hashes []api.Hash, a, b api.Hash) bool {
	if old < 1 || old > size || size > 1<<40 {
		return false
	}
	if len(hashes) != chapterCount(old, size, true) {
		return false
	}
	older, newer := chapterBoth(old, size, true, hashes, a)
	return older == a && newer == b
}

// What the tests are given.

func leaf(i int) api.Hash { return sha256.Sum256(fmt.Appendf(nil, "leaf %d", i)) }

// unlike are n leaves, each another one.
func unlike(n int) []api.Hash {
	out := make([]api.Hash, n)
	for i := range out {
		out[i] = leaf(i)
	}
	return out
}

// alike are n leaves, of which many are the same.
func alike(n int) []api.Hash {
	out := make([]api.Hash, n)
	for i := range out {
		out[i] = leaf(i * i % 3)
	}
	return out
}

func same(n int) []api.Hash { return slices.Repeat([]api.Hash{leaf(0)}, n) }

// odd are leaves such as no digest is: noughts, ones, a root of others.
func odd(n int) []api.Hash {
	out := make([]api.Hash, n)
	for i := range out {
		switch i % 4 {
		case 1:
			out[i] = api.Hash(slices.Repeat([]byte{0xff}, 32))
		case 2:
			out[i] = chapterNode(out[i-1], out[i-2])
		case 3:
			out[i] = sha256.Sum256(nil)
		}
	}
	return out
}

func makers() map[string]func(n int) []api.Hash {
	return map[string]func(n int) []api.Hash{"unlike": unlike, "alike": alike, "same": same, "odd": odd}
}

func grown(t testing.TB, l []api.Hash) *Tree {
	t.Helper()
	m := New()
	for i, h := range l {
		if got := m.Add(h); got != i {
			t.Fatalf("Add of leaf %d: %d", i, got)
		}
	}
	return m
}

// edges are powers of two and what stands beside them, up to a greatest.
func edges(most int) []int {
	var out []int
	for k := 1; k <= most; k *= 2 {
		out = append(out, k-1, k, k+1, k+k/2)
	}
	slices.Sort(out)
	out = slices.Compact(out)
	return slices.DeleteFunc(out, func(n int) bool { return n < 1 || n > most })
}

// wrongSizes are numbers that no tree has as its size but as the edges of one.
func wrongSizes() []int {
	return []int{math.MinInt, math.MinInt + 1, -1 << 40, -1 << 32, -1 << 31, -1 << 20, -2, -1, 1<<20 + 1, 1 << 21, 1<<31 - 1, 1 << 31, 1 << 32, 1<<32 + 1, 1 << 40, 1<<40 + 1, 1 << 62, math.MaxInt - 1, math.MaxInt}
}

// full is a Tree of as many leaves as there may be, made once for all tests
// that only ask it.
var full = sync.OnceValues(func() (*Tree, []api.Hash) {
	m, l := New(), make([]api.Hash, 1<<20)
	for i := range l {
		l[i] = api.Hash{byte(i), byte(i >> 8), byte(i >> 16), 31: 7}
		if m.Add(l[i]) != i {
			panic(i)
		}
	}
	return m, l
})

func wantRoot(t *testing.T, m *Tree, size int, want api.Hash) {
	t.Helper()
	if h, e := m.Root(size); h != want || e != api.OK {
		t.Fatalf("Root(%d): %x, %v; want %x", size, h, e, want)
	}
}

func wantPath(t *testing.T, m *Tree, i, size int, want []api.Hash) {
	t.Helper()
	if p, e := m.Prove(i, size); !slices.Equal(p.Hashes, want) || e != api.OK {
		t.Fatalf("Prove(%d, %d): %x, %v; want %x", i, size, p.Hashes, e, want)
	}
}

func wantConsistency(t *testing.T, m *Tree, old, size int, want []api.Hash) {
	t.Helper()
	if p, e := m.Consist(old, size); !slices.Equal(p.Hashes, want) || e != api.OK {
		t.Fatalf("Consist(%d, %d): %x, %v; want %x", old, size, p.Hashes, e, want)
	}
}

func refuseRoot(t *testing.T, m *Tree, size int) {
	t.Helper()
	if h, e := m.Root(size); h != (api.Hash{}) || e != api.ErrArg {
		t.Errorf("Root(%d) of %d leaves: %x, %v", size, m.Size(), h, e)
	}
}

func refuseProve(t *testing.T, m *Tree, i, size int) {
	t.Helper()
	if p, e := m.Prove(i, size); p.Hashes != nil || e != api.ErrArg {
		t.Errorf("Prove(%d, %d) of %d leaves: %x, %v", i, size, m.Size(), p.Hashes, e)
	}
}

func refuseConsist(t *testing.T, m *Tree, old, size int) {
	t.Helper()
	if p, e := m.Consist(old, size); p.Hashes != nil || e != api.ErrArg {
		t.Errorf("Consist(%d, %d) of %d leaves: %x, %v", old, size, m.Size(), p.Hashes, e)
	}
}

// P10.1

func TestAddAndSize(t *testing.T) {
	for name, make := range makers() {
		m := New()
		for i, h := range make(300) {
			if m.Size() != i {
				t.Fatal(name, i, m.Size())
			}
			if n := m.Add(h); n != i {
				t.Fatal(name, i, n)
			}
		}
		if m.Size() != 300 {
			t.Error(name, m.Size())
		}
	}
}

func TestRootOfNone(t *testing.T) {
	want := digest.Sum(nil)
	if digest.Hex(want) != "e3b0c44298fc1c149afbf4c8996fb92427ae41e4649b934ca495991b7852b855" {
		t.Fatal(want)
	}
	m := New()
	wantRoot(t, m, 0, want)
	for i := range 9 {
		m.Add(leaf(i))
		wantRoot(t, m, 0, want)
	}
}

func TestRootOfOneIsTheLeaf(t *testing.T) {
	for _, h := range odd(4) {
		wantRoot(t, grown(t, []api.Hash{h}), 1, h)
		wantRoot(t, grown(t, []api.Hash{h, leaf(1), leaf(2)}), 1, h)
	}
}

// These roots are well known: those of the leaves that certificate logs are
// tried with.
func TestRootKnown(t *testing.T) {
	m := New()
	for i, b := range []string{"", "00", "10", "2021", "3031", "40414243", "5051525354555657", "606162636465666768696a6b6c6d6e6f"} {
		text, err := hex.DecodeString(b)
		if err != nil || m.Add(digest.Leaf(text)) != i {
			t.Fatal(i, err)
		}
	}
	for i, want := range []string{
		"e3b0c44298fc1c149afbf4c8996fb92427ae41e4649b934ca495991b7852b855",
		"6e340b9cffb37a989ca544e6bb780a2c78901d3fb33738768511a30617afa01d",
		"fac54203e7cc696cf0dfcb42c92a1d9dbaf70ad9e621f4bd8d98662f00e3c125",
		"aeb6bcfe274b70a14fb067a5e5578264db0fa9b51af5e0ba159158f329e06e77",
		"d37ee418976dd95753c1c73862b9398fa2a2cf9b4ff0fdfe8b30cd95209614b7",
		"4e3bbb1f7b478dcfe71fb631631519a3bca12c9aefca1612bfce4c13a86264d4",
		"76e67dadbcdf1e10e1b74ddc608abd2f98dfb16fbce75277b5232a127f2087ef",
		"ddb89be403809e325750d3d263cd78929c2942b7942a34b77e122c9594a74c8c",
		"5dc9da79a70659a9ad559cb701ded9a2ab9d823aad2f4960cfe370eff4604328",
	} {
		if h, e := m.Root(i); digest.Hex(h) != want || e != api.OK {
			t.Errorf("Root(%d): %x, %v", i, h, e)
		}
	}
}

func TestRootOfEverySize(t *testing.T) {
	for name, make := range makers() {
		l := make(140)
		m := New()
		for n := range len(l) {
			wantRoot(t, m, n, chapterRoot(l[:n]))
			if m.Add(l[n]) != n {
				t.Fatal(name, n)
			}
		}
		for size := range len(l) + 1 {
			wantRoot(t, m, size, chapterRoot(l[:size]))
		}
	}
}

func TestRootOfGreaterSizes(t *testing.T) {
	l := unlike(1 << 12)
	m := grown(t, l)
	for _, size := range edges(len(l)) {
		wantRoot(t, m, size, chapterRoot(l[:size]))
	}
	maker := rand.New(rand.NewSource(10))
	for range 40 {
		size := maker.Intn(len(l) + 1)
		wantRoot(t, m, size, chapterRoot(l[:size]))
	}
}

func TestRootWrong(t *testing.T) {
	for n := range 20 {
		m := grown(t, unlike(n))
		for _, size := range append(wrongSizes(), n+1, n+2, 2*n+1, -n-1) {
			refuseRoot(t, m, size)
		}
		if m.Size() != n {
			t.Error(n, m.Size())
		}
		wantRoot(t, m, n, chapterRoot(unlike(n)))
	}
}

func TestFull(t *testing.T) {
	m, l := full()
	root := chapterRoot(l)
	for _, h := range []api.Hash{leaf(0), {}, l[0], l[len(l)-1]} {
		if n := m.Add(h); n != -1 {
			t.Fatal(n)
		}
		if m.Size() != 1<<20 || len(m.leaves) != 1<<20 || len(m.halves) != 1<<20-1 {
			t.Fatal(m.Size(), len(m.leaves), len(m.halves))
		}
		wantRoot(t, m, 1<<20, root)
	}
	for _, size := range []int{1 << 20, 1<<20 - 1, 1<<19 + 1, 699051, 3, 0} {
		wantRoot(t, m, size, chapterRoot(l[:size]))
	}
	for _, size := range wrongSizes() {
		refuseRoot(t, m, size)
		refuseProve(t, m, 0, size)
		refuseConsist(t, m, 1, size)
	}
}

func TestFullProves(t *testing.T) {
	m, l := full()
	for _, size := range []int{1 << 20, 1<<20 - 1} {
		root := chapterRoot(l[:size])
		for _, i := range []int{1<<19 - 1, size - 1} {
			want := chapterPath(l[:size], i)
			wantPath(t, m, i, size, want)
			if !Verify(l[i], i, size, api.Proof{Hashes: want}, root) {
				t.Error(i, size)
			}
		}
		for _, old := range []int{1<<19 + 1, size - 1} {
			want := chapterSub(l[:size], old, true)
			wantConsistency(t, m, old, size, want)
			if !VerifyConsist(old, size, api.Proof{Hashes: want}, chapterRoot(l[:old]), root) {
				t.Error(old, size)
			}
		}
		refuseProve(t, m, size, size)
		refuseConsist(t, m, size+1, size)
	}
}

// The roots of whole halves, each of them once, and nothing else.
func TestWholeHalvesAreKept(t *testing.T) {
	l := unlike(100)
	m := New()
	for n := range len(l) {
		m.Add(l[n])
		count := 0
		for level := 1; 1<<level <= n+1; level++ {
			for place := range (n + 1) >> level {
				count++
				if got := m.halves[half{level, place}]; got != chapterRoot(l[place<<level:(place+1)<<level]) {
					t.Fatal(n, level, place)
				}
			}
		}
		if len(m.halves) != count || !slices.Equal(m.leaves, l[:n+1]) {
			t.Fatal(n, len(m.halves), count)
		}
	}
}

// P10.2

func TestExamples(t *testing.T) {
	a, b, c := leaf(1), leaf(2), leaf(3)
	m := grown(t, []api.Hash{a, b, c})
	wantRoot(t, m, 3, digest.Node(digest.Node(a, b), c))
	wantPath(t, m, 2, 3, []api.Hash{digest.Node(a, b)})
}

// The trees of seven leaves and fewer, written out: paths from below to above.
func TestSevenLeaves(t *testing.T) {
	l := unlike(7)
	ab, cd, ef := digest.Node(l[0], l[1]), digest.Node(l[2], l[3]), digest.Node(l[4], l[5])
	abcd, efg := digest.Node(ab, cd), digest.Node(ef, l[6])
	m := grown(t, l)
	wantRoot(t, m, 7, digest.Node(abcd, efg))
	wantRoot(t, m, 6, digest.Node(abcd, ef))
	wantRoot(t, m, 5, digest.Node(abcd, l[4]))
	wantPath(t, m, 0, 7, []api.Hash{l[1], cd, efg})
	wantPath(t, m, 3, 7, []api.Hash{l[2], ab, efg})
	wantPath(t, m, 4, 7, []api.Hash{l[5], l[6], abcd})
	wantPath(t, m, 6, 7, []api.Hash{ef, abcd})
	wantPath(t, m, 4, 5, []api.Hash{abcd})
	wantPath(t, m, 0, 1, nil)
	wantConsistency(t, m, 3, 7, []api.Hash{l[2], l[3], ab, efg})
	wantConsistency(t, m, 4, 7, []api.Hash{efg})
	wantConsistency(t, m, 6, 7, []api.Hash{ef, l[6], abcd})
	wantConsistency(t, m, 2, 4, []api.Hash{cd})
	wantConsistency(t, m, 1, 7, []api.Hash{l[1], cd, efg})
	wantConsistency(t, m, 5, 7, []api.Hash{l[4], l[5], l[6], abcd})
	wantConsistency(t, m, 7, 7, nil)
	wantConsistency(t, m, 1, 1, nil)
}

func TestEveryProof(t *testing.T) {
	for _, make := range makers() {
		l := make(70)
		m := grown(t, l)
		for size := 1; size <= len(l); size++ {
			for i := range size {
				wantPath(t, m, i, size, chapterPath(l[:size], i))
				wantConsistency(t, m, i+1, size, chapterSub(l[:size], i+1, true))
			}
		}
	}
}

// What was asked of a tree of fewer leaves is answered alike of one of more.
func TestProofsOfGrowingTrees(t *testing.T) {
	l := unlike(34)
	m := New()
	for n := range len(l) {
		m.Add(l[n])
		for size := 1; size <= n+1; size++ {
			for i := range size {
				wantPath(t, m, i, size, chapterPath(l[:size], i))
				wantConsistency(t, m, i+1, size, chapterSub(l[:size], i+1, true))
			}
		}
	}
}

func TestProofsOfGreaterTrees(t *testing.T) {
	l := unlike(1025)
	m := grown(t, l)
	for _, size := range edges(len(l)) {
		for _, i := range edges(size) {
			wantPath(t, m, i-1, size, chapterPath(l[:size], i-1))
			wantConsistency(t, m, i, size, chapterSub(l[:size], i, true))
		}
	}
}

func TestProveWrong(t *testing.T) {
	for n := range 18 {
		m := grown(t, unlike(n))
		for _, size := range append(wrongSizes(), 0, n+1, n+2) {
			for _, i := range []int{math.MinInt, -1, 0, n - 1, n, n + 1, size - 1, size, math.MaxInt} {
				refuseProve(t, m, i, size)
			}
		}
		for size := 1; size <= n; size++ {
			for _, i := range append(wrongSizes(), size, size+1, n) {
				refuseProve(t, m, i, size)
			}
			for _, i := range []int{0, size - 1} {
				wantPath(t, m, i, size, chapterPath(unlike(size), i))
			}
		}
	}
}

func TestConsistWrong(t *testing.T) {
	for n := range 18 {
		m := grown(t, unlike(n))
		for _, size := range append(wrongSizes(), 0, n+1, n+2) {
			for _, old := range []int{math.MinInt, -1, 0, 1, n, n + 1, size - 1, size, size + 1, math.MaxInt} {
				refuseConsist(t, m, old, size)
			}
		}
		for size := 1; size <= n; size++ {
			for _, old := range append(wrongSizes(), 0, size+1, n+1) {
				refuseConsist(t, m, old, size)
			}
			for _, old := range []int{1, size} {
				wantConsistency(t, m, old, size, chapterSub(unlike(size), old, true))
			}
		}
	}
}

// P10.3

// placed is what Verify is asked.
type placed struct {
	leaf    api.Hash
	i, size int
	hashes  []api.Hash
	root    api.Hash
}

func (p placed) verify() bool {
	return Verify(p.leaf, p.i, p.size, api.Proof{Hashes: p.hashes}, p.root)
}

func (p placed) chapter() bool {
	return chapterVerify(p.leaf, p.i, p.size, p.hashes, p.root)
}

// holds asks Verify what the chapter says of it; whether it is true.
func (p placed) holds(t *testing.T) bool {
	t.Helper()
	got := p.verify()
	if got != p.chapter() {
		t.Fatalf("Verify(%x, %d, %d, %x, %x): %v", p.leaf, p.i, p.size, p.hashes, p.root, got)
	}
	return got
}

// begun is what VerifyConsist is asked.
type begun struct {
	old, size int
	hashes    []api.Hash
	a, b      api.Hash
}

func (c begun) verify() bool {
	return VerifyConsist(c.old, c.size, api.Proof{Hashes: c.hashes}, c.a, c.b)
}

func (c begun) chapter() bool {
	return chapterVerifyConsist(c.old, c.size, c.hashes, c.a, c.b)
}

func (c begun) holds(t *testing.T) bool {
	t.Helper()
	got := c.verify()
	if got != c.chapter() {
		t.Fatalf("VerifyConsist(%d, %d, %x, %x, %x): %v", c.old, c.size, c.hashes, c.a, c.b, got)
	}
	return got
}

// turned are digests that are near one, but another.
func turned(h api.Hash) []api.Hash {
	var out []api.Hash
	for _, n := range []int{0, 1, 15, 16, 30, 31} {
		for _, x := range []byte{1, 0x80} {
			other := h
			other[n] ^= x
			out = append(out, other)
		}
	}
	return append(out, chapterNode(h, h), sha256.Sum256(h[:]))
}

// spoilt are lists of Hashes that are none of a proof: one changed, one too
// many, one too few, two that changed places.
func spoilt(hashes []api.Hash) [][]api.Hash {
	out := [][]api.Hash{slices.Insert(slices.Clone(hashes), len(hashes), leaf(-1)), slices.Insert(slices.Clone(hashes), 0, leaf(-1)), slices.Insert(slices.Clone(hashes), len(hashes)/2, api.Hash{})}
	for n, h := range hashes {
		for _, other := range turned(h) {
			l := slices.Clone(hashes)
			l[n] = other
			out = append(out, l)
		}
		out = append(out, slices.Delete(slices.Clone(hashes), n, n+1), slices.Insert(slices.Clone(hashes), n, h))
		for k := range n {
			l := slices.Clone(hashes)
			l[n], l[k] = l[k], l[n]
			out = append(out, l)
		}
	}
	if len(hashes) > 0 {
		out = append(out, nil, []api.Hash{}, hashes[1:], hashes[:len(hashes)-1], slices.Concat(hashes, hashes))
	}
	return out
}

func eachPlace(n int, do func(p placed)) {
	l := unlike(n)
	for size := 1; size <= n; size++ {
		root := chapterRoot(l[:size])
		for i := range size {
			do(placed{l[i], i, size, chapterPath(l[:size], i), root})
		}
	}
}

func eachBeginning(n int, do func(c begun)) {
	l := unlike(n)
	for size := 1; size <= n; size++ {
		root := chapterRoot(l[:size])
		for old := 1; old <= size; old++ {
			do(begun{old, size, chapterSub(l[:size], old, true), chapterRoot(l[:old]), root})
		}
	}
}

func TestVerify(t *testing.T) {
	eachPlace(70, func(p placed) {
		if !p.holds(t) {
			t.Fatal(p.i, p.size)
		}
	})
}

func TestVerifyAnotherLeafOrRoot(t *testing.T) {
	eachPlace(36, func(p placed) {
		for _, other := range append(turned(p.leaf), leaf(p.i+1), leaf(p.i-1), p.root, api.Hash{}) {
			q := p
			q.leaf = other
			if other != p.leaf && q.holds(t) {
				t.Fatal("another leaf", p.i, p.size)
			}
		}
		for _, other := range append(turned(p.root), chapterRoot(unlike(p.size-1)), chapterRoot(unlike(p.size+1)), api.Hash{}) {
			q := p
			q.root = other
			if q.holds(t) {
				t.Fatal("another root", p.i, p.size)
			}
		}
	})
}

func TestVerifyAnotherPlace(t *testing.T) {
	eachPlace(36, func(p placed) {
		for i := -2; i < p.size+3; i++ {
			q := p
			q.i = i
			if q.holds(t) != (i == p.i) {
				t.Fatal("another place", p.i, p.size, i)
			}
		}
	})
}

// Sizes under which a way has the same sides are not told apart: what a
// proof's Hashes make is then the same root.
func TestVerifyAnotherSize(t *testing.T) {
	both := [2]int{}
	eachPlace(34, func(p placed) {
		sides := chapterSides(p.i, p.size)
		for size := range 70 {
			q := p
			q.size = size
			want := size > p.i && slices.Equal(chapterSides(p.i, size), sides)
			if q.holds(t) != want {
				t.Fatal("another size", p.i, p.size, size)
			}
			if want && size != p.size {
				both[1]++
			} else if !want {
				both[0]++
			}
		}
	})
	if both[0] == 0 || both[1] == 0 {
		t.Error(both)
	}
}

func TestVerifySpoiltProof(t *testing.T) {
	eachPlace(36, func(p placed) {
		for _, hashes := range spoilt(p.hashes) {
			q := p
			q.hashes = hashes
			if q.holds(t) {
				t.Fatal("another proof", p.i, p.size, len(p.hashes), len(hashes))
			}
		}
	})
}

// The root of more leaves is not made out of one that stands for a Node.
func TestVerifyANodeIsNoLeaf(t *testing.T) {
	l := unlike(4)
	root := chapterRoot(l)
	ab, cd := chapterNode(l[0], l[1]), chapterNode(l[2], l[3])
	if Verify(ab, 0, 4, api.Proof{Hashes: []api.Hash{cd}}, root) || Verify(cd, 2, 4, api.Proof{Hashes: []api.Hash{ab}}, root) || Verify(root, 0, 4, api.Proof{}, root) {
		t.Error("a Node was taken as a leaf of four")
	}
	if !Verify(ab, 0, 2, api.Proof{Hashes: []api.Hash{cd}}, root) || !Verify(root, 0, 1, api.Proof{}, root) {
		t.Error("of two leaves, or of one, they are leaves")
	}
}

// greatSizes are up to 2^40, about powers of two and between them.
func greatSizes() []int {
	out := []int{}
	for _, power := range []int{20, 21, 30, 31, 32, 33, 39, 40} {
		out = append(out, 1<<power-1, 1<<power, 1<<power+1, 1<<power-1<<(power/2), 1<<(power-1)+1<<(power/3))
	}
	maker := rand.New(rand.NewSource(40))
	for range 30 {
		out = append(out, 1+maker.Intn(1<<40))
	}
	return slices.DeleteFunc(out, func(n int) bool { return n > 1<<40 })
}

// greatPlaces are some of 0 to size - 1.
func greatPlaces(size int) []int {
	maker := rand.New(rand.NewSource(int64(size)))
	k := chapterPower(size)
	out := []int{0, 1, 2, k - 1, k, k + 1, size - 2, size - 1, size / 2, size / 3, maker.Intn(size), maker.Intn(size)}
	return slices.DeleteFunc(out, func(i int) bool { return i < 0 || i >= size })
}

// reckoned is a proof of some Hashes that makes the root it makes.
func reckoned(i, size int) placed {
	p := placed{leaf: leaf(i), i: i, size: size}
	sides := chapterSides(i, size)
	slices.Reverse(sides)
	p.root = p.leaf
	for n, left := range sides {
		p.hashes = append(p.hashes, leaf(-100-n))
		if left {
			p.root = chapterNode(p.root, leaf(-100-n))
		} else {
			p.root = chapterNode(leaf(-100-n), p.root)
		}
	}
	return p
}

func reckonedConsist(old, size int) begun {
	c := begun{old: old, size: size}
	for n := range chapterCount(old, size, true) {
		c.hashes = append(c.hashes, leaf(-100-n))
	}
	c.a, c.b = chapterBoth(old, size, true, c.hashes, leaf(old))
	return c
}

func TestVerifyGreatSizes(t *testing.T) {
	for _, size := range greatSizes() {
		for _, i := range greatPlaces(size) {
			p := reckoned(i, size)
			if !p.holds(t) {
				t.Fatal(i, size)
			}
			for _, q := range []placed{{p.leaf, i ^ 1, size, p.hashes, p.root}, {p.leaf, i, size, p.hashes[:len(p.hashes)-1], p.root}, {p.leaf, i, size, append(slices.Clone(p.hashes), leaf(1)), p.root}, {p.leaf, i, 2 * size, p.hashes, p.root}, {p.leaf, i, size / 2, p.hashes, p.root}, {p.root, i, size, p.hashes, p.root}} {
				if q.holds(t) {
					t.Fatal(i, size, q.i, q.size, len(q.hashes))
				}
			}
		}
	}
}

func TestVerifyAboveTheGreatestSize(t *testing.T) {
	if p := reckoned(0, 1<<40); len(p.hashes) != 40 || !p.verify() {
		t.Error("2^40")
	}
	for _, size := range []int{1<<40 + 1, 1<<40 + 2, 1<<41 - 1, 1 << 41, 1<<41 + 1, 1 << 50, 1 << 61, 1<<62 - 1, 1 << 62} {
		for _, i := range greatPlaces(size) {
			if p := reckoned(i, size); p.verify() || p.chapter() {
				t.Fatal(i, size)
			}
		}
	}
}

// A number of a proof that is none, with as many Hashes as there may be.
func TestVerifyWrongNumbers(t *testing.T) {
	h := leaf(1)
	l := unlike(130)
	for _, size := range append(wrongSizes(), 0, 1, 2, 3) {
		for _, i := range append(wrongSizes(), 0, 1, 2, 3, size-1, size, size+1) {
			for _, n := range []int{0, 1, 2, 20, 31, 32, 39, 40, 41, 62, 63, 64, 65, 130} {
				placed{h, i, size, l[:n], h}.holds(t)
			}
		}
	}
	for _, i := range []int{-1, math.MinInt, 1, 2, math.MaxInt} {
		if Verify(h, i, 1, api.Proof{}, h) {
			t.Error(i)
		}
	}
	for _, size := range []int{-1, math.MinInt, 0, 1<<40 + 1, math.MaxInt} {
		if Verify(h, 0, size, api.Proof{}, h) || Verify(h, size-1, size, api.Proof{}, h) {
			t.Error(size)
		}
	}
}

func TestVerifyConsist(t *testing.T) {
	eachBeginning(70, func(c begun) {
		if !c.holds(t) {
			t.Fatal(c.old, c.size)
		}
	})
}

func TestVerifyConsistAnotherRoot(t *testing.T) {
	eachBeginning(36, func(c begun) {
		for _, other := range append(turned(c.a), chapterRoot(unlike(c.old-1)), chapterRoot(unlike(c.old+1)), api.Hash{}) {
			d := c
			d.a = other
			if d.holds(t) {
				t.Fatal("another old root", c.old, c.size)
			}
		}
		for _, other := range append(turned(c.b), chapterRoot(unlike(c.size-1)), chapterRoot(unlike(c.size+1)), api.Hash{}) {
			d := c
			d.b = other
			if d.holds(t) {
				t.Fatal("another root", c.old, c.size)
			}
		}
		if d := (begun{c.old, c.size, c.hashes, c.b, c.a}); d.holds(t) != (c.old == c.size) {
			t.Fatal("roots that changed places", c.old, c.size)
		}
		if d := (begun{c.old, c.size, c.hashes, c.b, c.b}); d.holds(t) != (c.old == c.size) {
			t.Fatal("one root", c.old, c.size)
		}
	})
}

// Of another old the roots are others; sizes may not be told apart, as with
// Verify, so these are held against the chapter alone.
func TestVerifyConsistAnotherSize(t *testing.T) {
	eachBeginning(34, func(c begun) {
		for other := -2; other < 70; other++ {
			d := c
			d.old = other
			if d.holds(t) && other != c.old {
				t.Fatal("another old", c.old, c.size, other)
			}
			d = c
			d.size = other
			if d.holds(t) && other < c.old {
				t.Fatal("another size", c.old, c.size, other)
			}
		}
		if d := (begun{c.size, c.old, c.hashes, c.b, c.a}); d.holds(t) != (c.old == c.size) {
			t.Fatal("sizes that changed places", c.old, c.size)
		}
	})
}

func TestVerifyConsistSpoiltProof(t *testing.T) {
	eachBeginning(36, func(c begun) {
		for _, hashes := range spoilt(c.hashes) {
			d := c
			d.hashes = hashes
			if d.holds(t) {
				t.Fatal("another proof", c.old, c.size, len(c.hashes), len(hashes))
			}
		}
	})
}

func TestVerifyConsistOfOneSize(t *testing.T) {
	a, b := leaf(1), leaf(2)
	for _, size := range append(greatSizes(), 1, 2, 3, 4, 5, 1<<40) {
		for _, hashes := range [][]api.Hash{nil, {}, {a}, {b}, {a, a}, unlike(41)} {
			if got := VerifyConsist(size, size, api.Proof{Hashes: hashes}, a, a); got != (len(hashes) == 0) {
				t.Error(size, len(hashes), got)
			}
			if VerifyConsist(size, size, api.Proof{Hashes: hashes}, a, b) {
				t.Error(size, len(hashes))
			}
		}
	}
	for _, size := range []int{math.MinInt, -1, 0, 1<<40 + 1, 1 << 41, 1<<41 - 1, 1 << 62, math.MaxInt} {
		if VerifyConsist(size, size, api.Proof{}, a, a) {
			t.Error(size)
		}
	}
}

func TestVerifyConsistGreatSizes(t *testing.T) {
	for _, size := range greatSizes() {
		for _, i := range append(greatPlaces(size), 3, 1<<19-1, 1<<20-1, 1<<30-1) {
			old := min(i+1, size)
			c := reckonedConsist(old, size)
			if !c.holds(t) {
				t.Fatal(old, size)
			}
			for _, hashes := range spoilt(c.hashes)[:3] {
				if (begun{old, size, hashes, c.a, c.b}).holds(t) {
					t.Fatal(old, size, len(hashes))
				}
			}
			if old == size {
				continue
			}
			for _, d := range []begun{{old, size, c.hashes[1:], c.a, c.b}, {old, size, c.hashes, c.b, c.a}, {old, size, c.hashes, c.a, c.a}, {old, size, c.hashes, leaf(-3), c.b}, {old + 1, size, c.hashes, c.a, c.b}} {
				if d.holds(t) {
					t.Fatal(old, size, d.old, d.size, len(d.hashes))
				}
			}
		}
	}
}

func TestVerifyConsistAboveTheGreatestSize(t *testing.T) {
	if c := reckonedConsist(1, 1<<40); len(c.hashes) != 40 || !c.verify() {
		t.Error("2^40")
	}
	if c := reckonedConsist(1<<40-1, 1<<40); len(c.hashes) != 41 || !c.verify() {
		t.Error("2^40, all but one")
	}
	for _, size := range []int{1<<40 + 1, 1<<40 + 2, 1<<41 - 1, 1 << 41, 1<<41 + 1, 1 << 50, 1 << 61, 1<<62 - 1, 1 << 62} {
		for _, old := range append(greatPlaces(size), 1<<40, size) {
			if c := reckonedConsist(max(old, 1), size); c.verify() || c.chapter() {
				t.Fatal(old, size)
			}
		}
	}
}

func TestVerifyConsistWrongNumbers(t *testing.T) {
	h := leaf(1)
	l := unlike(130)
	for _, size := range append(wrongSizes(), 0, 1, 2, 3) {
		for _, old := range append(wrongSizes(), 0, 1, 2, 3, size-1, size, size+1) {
			for _, n := range []int{0, 1, 2, 20, 31, 32, 39, 40, 41, 42, 62, 63, 64, 65, 130} {
				begun{old, size, l[:n], h, h}.holds(t)
			}
		}
	}
	none := chapterRoot(nil)
	for _, c := range []begun{{0, 1, nil, none, h}, {0, 1, []api.Hash{h}, none, h}, {0, 0, nil, none, none}, {-1, 1, nil, h, h}, {2, 1, nil, h, h}, {1, 0, nil, h, h}, {-1, -1, nil, h, h}, {1, 2, nil, h, h}, {3, 4, nil, h, h}} {
		if c.holds(t) {
			t.Error(c.old, c.size)
		}
	}
}

// W5
func TestNoHashesAreNilOrEmpty(t *testing.T) {
	h := leaf(1)
	for _, none := range [][]api.Hash{nil, {}, make([]api.Hash, 0, 3)} {
		if !Verify(h, 0, 1, api.Proof{Hashes: none}, h) || Verify(h, 0, 2, api.Proof{Hashes: none}, h) || !VerifyConsist(7, 7, api.Proof{Hashes: none}, h, h) || VerifyConsist(3, 7, api.Proof{Hashes: none}, h, h) || VerifyConsist(4, 7, api.Proof{Hashes: none}, h, h) {
			t.Error(none == nil)
		}
	}
}

// P10.4

func TestWhatIsProvedIsVerified(t *testing.T) {
	maker := rand.New(rand.NewSource(104))
	for name, make := range makers() {
		l := make(1500)
		m := grown(t, l)
		for range 600 {
			size := 1 + maker.Intn(len(l))
			i, old := maker.Intn(size), 1+maker.Intn(size)
			root, _ := m.Root(size)
			older, _ := m.Root(old)
			p, e := m.Prove(i, size)
			if e != api.OK || !Verify(l[i], i, size, p, root) {
				t.Fatal(name, i, size, e)
			}
			c, e := m.Consist(old, size)
			if e != api.OK || !VerifyConsist(old, size, c, older, root) {
				t.Fatal(name, old, size, e)
			}
		}
	}
}

// collision finds two unlike pairs with one Node on the ways of two leaves.
func collision(i, size int, leaf, other api.Hash, p, q []api.Hash) bool {
	sides := chapterSides(i, size)
	slices.Reverse(sides)
	for n, left := range sides {
		x, y := [2]api.Hash{leaf, p[n]}, [2]api.Hash{other, q[n]}
		if !left {
			x, y = [2]api.Hash{p[n], leaf}, [2]api.Hash{q[n], other}
		}
		leaf, other = digest.Node(x[0], x[1]), digest.Node(y[0], y[1])
		if x != y && leaf == other {
			return true
		}
	}
	return false
}

// Where two unlike leaves are taken at one place, a collision is told of them
// alone. No pair with one Node is known, so none of these may be taken twice:
// the other leaf comes with Hashes that were made for it, for it elsewhere,
// and with some that are near the first leaf's.
func TestTwoUnlikeLeaves(t *testing.T) {
	l, others := unlike(40), unlike(80)[40:]
	for size := 1; size <= len(l); size++ {
		root := chapterRoot(l[:size])
		for i := range size {
			p := chapterPath(l[:size], i)
			if !Verify(l[i], i, size, api.Proof{Hashes: p}, root) {
				t.Fatal(i, size)
			}
			changed := slices.Clone(l[:size])
			changed[i] = others[i]
			tries := append(spoilt(p), p, chapterPath(changed, i), chapterPath(others[:size], i), chapterPath(l[:size], (i+1)%size), chapterPath(l[:size], size-1-i))
			for _, q := range tries {
				for _, other := range []api.Hash{others[i], l[(i+1)%size], root, {}} {
					if other == l[i] || !Verify(other, i, size, api.Proof{Hashes: q}, root) {
						continue
					}
					if len(q) != len(p) || !collision(i, size, l[i], other, p, q) {
						t.Fatal("two leaves without a collision", i, size)
					}
				}
			}
		}
	}
}

// Each side of each Node counts: leaves that stand in two roots are no more
// than one if any one of the ways is another.
func TestRootsTellTheLeaves(t *testing.T) {
	for size := 1; size <= 33; size++ {
		l := unlike(size)
		root, _ := grown(t, l).Root(size)
		for i := range size {
			for _, other := range turned(l[i]) {
				changed := slices.Clone(l)
				changed[i] = other
				if h, e := grown(t, changed).Root(size); h == root || e != api.OK {
					t.Fatal(i, size, e)
				}
			}
			changed := slices.Clone(l)
			changed[i], changed[0] = changed[0], changed[i]
			if h, _ := grown(t, changed).Root(size); (h == root) != (i == 0) {
				t.Fatal(i, size)
			}
		}
	}
}

// P10.5, W1 to W3, W6 to W9

func TestNil(t *testing.T) {
	var m *Tree
	for range 2 {
		if m.Add(leaf(0)) != -1 || m.Size() != 0 {
			t.Error(m.Add(leaf(0)), m.Size())
		}
		for _, size := range append(wrongSizes(), 0, 1, 2) {
			refuseRoot(t, m, size)
			for _, i := range []int{-1, 0, 1, 2} {
				refuseProve(t, m, i, size)
				refuseConsist(t, m, i, size)
			}
		}
	}
}

// A Tree that New did not make has no leaf.
func TestZeroTree(t *testing.T) {
	l := unlike(9)
	m := &Tree{}
	wantRoot(t, m, 0, chapterRoot(nil))
	refuseRoot(t, m, 1)
	refuseProve(t, m, 0, 1)
	refuseConsist(t, m, 1, 1)
	for i, h := range l {
		if m.Size() != i || m.Add(h) != i {
			t.Fatal(i)
		}
		wantRoot(t, m, i+1, chapterRoot(l[:i+1]))
	}
}

func TestCopiedAsValue(t *testing.T) {
	l := unlike(50)
	for n := range len(l) {
		m := *grown(t, l[:n])
		for i, h := range l[n:] {
			if m.Add(h) != n+i {
				t.Fatal(n, i)
			}
		}
		wantRoot(t, &m, len(l), chapterRoot(l))
		wantPath(t, &m, n, len(l), chapterPath(l, n))
	}
}

func TestTreesAreApart(t *testing.T) {
	l, k := unlike(40), alike(40)
	m, n := New(), New()
	for i := range l {
		if m.Add(l[i]) != i || n.Size() != i || n.Add(k[i]) != i || m.Size() != i+1 {
			t.Fatal(i)
		}
		wantRoot(t, m, i+1, chapterRoot(l[:i+1]))
		wantRoot(t, n, i+1, chapterRoot(k[:i+1]))
	}
}

// spared is a list with spare room that holds something.
func spared(hashes []api.Hash) []api.Hash {
	out := append(slices.Clone(hashes), leaf(-7), leaf(-8), leaf(-9))
	return out[:len(hashes):len(out)]
}

func TestHandedInIsNotChanged(t *testing.T) {
	look := func(l []api.Hash, ask func(api.Proof)) {
		given := spared(l)
		was := slices.Clone(given[:cap(given)])
		ask(api.Proof{Hashes: given})
		if !slices.Equal(given[:cap(given)], was) {
			t.Fatal("changed")
		}
	}
	eachPlace(20, func(p placed) {
		for _, hashes := range append(spoilt(p.hashes), p.hashes) {
			look(hashes, func(q api.Proof) { Verify(p.leaf, p.i, p.size, q, p.root) })
		}
	})
	eachBeginning(20, func(c begun) {
		for _, hashes := range append(spoilt(c.hashes), c.hashes) {
			look(hashes, func(q api.Proof) { VerifyConsist(c.old, c.size, q, c.a, c.b) })
		}
	})
}

// What stands behind a proof's end is not read: with it the proof would be whole.
func TestSpareRoomIsNotRead(t *testing.T) {
	eachPlace(20, func(p placed) {
		for n := range p.hashes {
			p := p
			p.hashes = p.hashes[:n]
			if p.holds(t) {
				t.Fatal(p.i, p.size, n)
			}
		}
	})
	eachBeginning(20, func(c begun) {
		for n := range c.hashes {
			c := c
			c.hashes = c.hashes[:n]
			if c.holds(t) {
				t.Fatal(c.old, c.size, n)
			}
		}
	})
}

func TestHandedInIsNotKept(t *testing.T) {
	l := unlike(20)
	m := grown(t, l)
	given := m.proofs(t)
	for i, h := range l {
		h[0] ^= 0xff
		l[i] = h
	}
	if !slices.Equal(given, m.proofs(t)) {
		t.Error("leaves were kept")
	}
	p := placed{leaf(3), 3, 20, chapterPath(unlike(20), 3), chapterRoot(unlike(20))}
	if !p.verify() {
		t.Fatal("a proof")
	}
	p.hashes[2][5] ^= 1
	if p.verify() {
		t.Error("a proof was kept")
	}
	p.hashes[2][5] ^= 1
	if !p.verify() {
		t.Error("a proof was kept")
	}
}

// proofs are all that can be asked of a tree, one behind the other.
func (m *Tree) proofs(t testing.TB) []api.Hash {
	t.Helper()
	var out []api.Hash
	for size := range m.Size() + 1 {
		h, e := m.Root(size)
		if e != api.OK {
			t.Fatal(size, e)
		}
		out = append(out, h)
		for i := range size {
			p, e := m.Prove(i, size)
			c, f := m.Consist(i+1, size)
			if e != api.OK || f != api.OK {
				t.Fatal(i, size, e, f)
			}
			out = slices.Concat(out, p.Hashes, c.Hashes)
		}
	}
	return out
}

// turn makes all memory of a list another one, spare room too.
func turn(hashes []api.Hash) {
	hashes = hashes[:cap(hashes)]
	for i := range hashes {
		hashes[i][i%32] ^= 0xa5
	}
}

func TestAnswersAreNewMemory(t *testing.T) {
	for n := range 34 {
		m := grown(t, unlike(n))
		was := m.proofs(t)
		seen := map[*api.Hash]bool{}
		for range 2 {
			for size := 1; size <= n; size++ {
				for i := range size {
					p, _ := m.Prove(i, size)
					c, _ := m.Consist(i+1, size)
					for _, l := range [][]api.Hash{p.Hashes, c.Hashes} {
						for k := range l[:cap(l)] {
							if at := &l[:cap(l)][k]; seen[at] {
								t.Fatal("two answers share memory", i, size)
							} else {
								seen[at] = true
							}
						}
						turn(l)
					}
				}
			}
		}
		for i := range m.leaves[:cap(m.leaves)] {
			if seen[&m.leaves[:cap(m.leaves)][i]] {
				t.Fatal("an answer is what the tree keeps", n, i)
			}
		}
		if !slices.Equal(was, m.proofs(t)) {
			t.Fatal("answers that were changed changed the tree", n)
		}
	}
}

func TestAnswersStay(t *testing.T) {
	l := unlike(70)
	m := New()
	type answer struct {
		p    api.Proof
		want []api.Hash
	}
	var answers []answer
	for n := range len(l) {
		m.Add(l[n])
		for _, i := range []int{0, n / 2, n} {
			p, _ := m.Prove(i, n+1)
			c, _ := m.Consist(i+1, n+1)
			answers = append(answers, answer{p, slices.Clone(p.Hashes)}, answer{c, slices.Clone(c.Hashes)})
		}
	}
	m.proofs(t)
	for n, a := range answers {
		if !slices.Equal(a.p.Hashes, a.want) {
			t.Fatal(n)
		}
	}
}

// What asks and what is refused changes nothing: a tree that was asked much
// answers as one that was not.
func TestAskingChangesNothing(t *testing.T) {
	l := unlike(40)
	asked, twin := New(), New()
	for i, h := range l {
		asked.proofs(t)
		for _, n := range wrongSizes() {
			refuseRoot(t, asked, n)
			refuseProve(t, asked, n, i)
			refuseProve(t, asked, 0, n)
			refuseConsist(t, asked, n, i)
			refuseConsist(t, asked, 1, n)
		}
		if asked.Add(h) != i || twin.Add(h) != i {
			t.Fatal(i)
		}
	}
	if !slices.Equal(asked.proofs(t), twin.proofs(t)) || asked.Size() != twin.Size() {
		t.Error("a tree that was asked is another one")
	}
}

func TestSideBySide(t *testing.T) {
	l := unlike(60)
	want := grown(t, l).proofs(t)
	var all sync.WaitGroup
	for range 8 {
		all.Go(func() {
			m := New()
			for _, h := range l {
				m.Add(h)
			}
			if !slices.Equal(m.proofs(t), want) {
				t.Error("another answer")
			}
			for _, size := range greatSizes() {
				if !reckoned(size-1, size).verify() || !reckonedConsist(1, size).verify() {
					t.Error(size)
				}
			}
		})
	}
	all.Wait()
}

// A proof of very many Hashes, or of a very great size, costs next to nothing.
func TestGreatInputsNeedLittleMemory(t *testing.T) {
	many := api.Proof{Hashes: make([]api.Hash, 1<<21)}
	h := leaf(0)
	var before, after runtime.MemStats
	runtime.ReadMemStats(&before)
	for _, size := range append(wrongSizes(), 1, 2, 3, 1<<20, 1<<40-1) {
		for _, i := range []int{0, 1, size / 2, size - 1, size} {
			if Verify(h, i, size, many, h) || VerifyConsist(i, size, many, h, h) {
				t.Fatal(i, size)
			}
		}
	}
	runtime.ReadMemStats(&after)
	if used := after.TotalAlloc - before.TotalAlloc; used > 1<<22 {
		t.Error(used)
	}
}

// follow does what a script says with a tree and asks it all that its leaves
// allow, beside what the chapter says.
func follow(t *testing.T, script []byte) {
	m, l := New(), []api.Hash{}
	take := func() int {
		if len(script) == 0 {
			return 0
		}
		x := int(int8(script[0]))
		script = script[1:]
		return x
	}
	for len(script) > 0 && len(l) < 300 {
		what, x, y := take(), take(), take()
		switch what & 7 {
		case 0:
			for range x & 15 {
				l = append(l, leaf(y))
				if m.Add(leaf(y)) != len(l)-1 || m.Size() != len(l) {
					t.Fatal(len(l))
				}
			}
		case 1:
			if x < 0 || x > len(l) {
				refuseRoot(t, m, x)
			} else {
				wantRoot(t, m, x, chapterRoot(l[:x]))
			}
		case 2:
			if y < 1 || y > len(l) || x < 0 || x >= y {
				refuseProve(t, m, x, y)
			} else {
				wantPath(t, m, x, y, chapterPath(l[:y], x))
			}
		case 3:
			if y < 1 || y > len(l) || x < 1 || x > y {
				refuseConsist(t, m, x, y)
			} else {
				wantConsistency(t, m, x, y, chapterSub(l[:y], x, true))
			}
		default:
			doubt(t, what, x, y, take())
		}
	}
}

// doubt asks of numbers out of three bytes, small ones and great ones.
func doubt(t *testing.T, what, x, y, z int) {
	i, size := x, y
	if what&8 != 0 {
		size = y<<33 + z
	}
	if what&16 != 0 {
		i = size - x
	}
	hashes := unlike(z & 63)
	switch {
	case what&32 != 0 && i >= 0 && i < size && size <= 1<<40:
		p := reckoned(i, size)
		if !p.holds(t) {
			t.Fatal(i, size)
		}
		hashes = p.hashes
	case what&32 != 0 && i > 0 && i <= size && size <= 1<<40:
		hashes = reckonedConsist(i, size).hashes
	}
	for _, root := range []api.Hash{leaf(0), chapterNode(leaf(0), leaf(0)), chapterNode(leaf(0), leaf(1))} {
		placed{leaf(0), i, size, hashes, root}.holds(t)
		begun{i, size, hashes, leaf(0), root}.holds(t)
		begun{i, size, hashes, root, leaf(0)}.holds(t)
	}
}

func TestAgainstChapter(t *testing.T) {
	maker := rand.New(rand.NewSource(1010))
	for range 60 {
		script := make([]byte, 3*(1+maker.Intn(120)))
		maker.Read(script)
		for i := 0; i < len(script); i += 3 + maker.Intn(9) {
			script[i] = 0
		}
		follow(t, script)
	}
}

func FuzzAnyBytes(f *testing.F) {
	f.Add([]byte{})
	f.Add([]byte{0, 3, 1, 1, 3, 0, 2, 2, 3, 3, 2, 3})
	f.Add([]byte{0, 15, 1, 0, 15, 2, 2, 29, 30, 3, 16, 30, 1, 31, 0})
	f.Add([]byte{44, 3, 127, 5, 60, 127, 100, 7, 4, 1, 1, 0})
	f.Fuzz(func(t *testing.T, script []byte) { follow(t, script) })
}
