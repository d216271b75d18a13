package tree

import (
	"iter"
	"math"
	"math/bits"
	"math/rand"
	"slices"
	"testing"
)

// sizes are of trees without a text, of one leaf, of two, at the edges between, and of up to four levels.
func sizes() []int {
	return []int{0, 1, 2, 3, half - 1, half, half + 1, width - 1, width, width + 1, 2*width - 1, 2 * width, 2*width + 1, 100, half*width + 9, 300, 1000, 2500}
}

// orders are the ways in which n texts can come or go.
func orders(n int) map[string][]int {
	rising := make([]int, n)
	for i := range rising {
		rising[i] = i
	}
	falls := slices.Clone(rising)
	slices.Reverse(falls)
	zigzag, inside, strides, turned := []int{}, []int{}, []int{}, []int{}
	for i := range n {
		if i%2 == 0 {
			zigzag = append(zigzag, i/2)
		} else {
			zigzag = append(zigzag, n-1-i/2)
		}
	}
	inside = slices.Clone(zigzag)
	slices.Reverse(inside)
	for start := range width {
		for i := start; i < n; i += width {
			strides = append(strides, i)
		}
	}
	wide := bits.Len(uint(n))
	for i := range 1 << wide {
		if r := int(bits.Reverse64(uint64(i)) >> (64 - wide)); wide > 0 && r < n {
			turned = append(turned, r)
		}
	}
	return map[string][]int{
		"rising": rising, "falling": falls, "from both ends": zigzag, "from the middle": inside, "by strides": strides,
		"digits turned": turned, "drawn": rand.New(rand.NewSource(int64(n))).Perm(n),
	}
}

func names(m map[string][]int) []string {
	var out []string
	for name := range m {
		out = append(out, name)
	}
	slices.Sort(out)
	return out
}

// P13.1

func TestExample(t *testing.T) {
	x := New()
	for _, c := range []struct {
		text   string
		n, old int
		had    bool
	}{{"b", 2, 0, false}, {"a", 1, 0, false}, {"b", 3, 2, true}} {
		if old, had := x.Put(c.text, c.n); old != c.old || had != c.had {
			t.Errorf("Put(%s, %d): %d %v", c.text, c.n, old, had)
		}
	}
	if got := all(x.Range("", "b")); !slices.Equal(got, []pair{{"a", 1}}) {
		t.Error(got)
	}
	if got := all(x.Range("", "")); !slices.Equal(got, []pair{{"a", 1}, {"b", 3}}) {
		t.Error(got)
	}
	if got := all(x.Back("", "")); !slices.Equal(got, []pair{{"b", 3}, {"a", 1}}) {
		t.Error(got)
	}
}

func TestWhatATextHas(t *testing.T) {
	for _, text := range []string{"", "a", "\x00", "\xff\xfe", "ä", "long " + string(make([]byte, 5000))} {
		for _, others := range sizes() {
			b := many(t, others)
			b.get(t, text)
			b.delete(t, text)
			for _, n := range []int{0, 1, -1, math.MaxInt, math.MinInt, 0, 0, 7} {
				b.put(t, text, n)
				b.get(t, text)
			}
			b.delete(t, text)
			b.get(t, text)
			b.delete(t, text)
			same(t, b.x, b.l)
		}
	}
}

// A number of 0 is one that a text has.
func TestNought(t *testing.T) {
	x := New()
	x.Put("", 0)
	if n, ok := x.Get(""); n != 0 || !ok {
		t.Error(n, ok)
	}
	if n, ok := x.Put("", 0); n != 0 || !ok {
		t.Error(n, ok)
	}
	if n, ok := x.Delete(""); n != 0 || !ok {
		t.Error(n, ok)
	}
	if n, ok := x.Delete(""); n != 0 || ok {
		t.Error(n, ok)
	}
	if n, ok := x.Get(""); n != 0 || ok {
		t.Error(n, ok)
	}
}

// Texts of any bytes are unlike each other if a byte is, and sort by their bytes without a sign; each begin of a text comes ahead of it.
func TestAnyBytes(t *testing.T) {
	var texts []string
	for c := range 256 {
		texts = append(texts, string([]byte{byte(c)}), string([]byte{'a', byte(c)}), string([]byte{byte(c), 0}), string([]byte{byte(c), 255}))
	}
	for i := range 40 {
		texts = append(texts, string(make([]byte, i)), "ab\xff\x00ab\xff\x00ab\xff\x00ab\xff\x00ab\xff\x00"[:i/2])
	}
	b := newBoth()
	for i, text := range texts {
		b.put(t, text, i)
	}
	same(t, b.x, b.l)
	for _, from := range texts {
		sameRange(t, b.x, b.l, from, texts[7])
		sameRange(t, b.x, b.l, texts[700], from)
	}
	for _, text := range texts {
		b.delete(t, text)
	}
	same(t, b.x, b.l)
}

// What is there already gets its number and nothing more; what is not there is taken away without a trace.
func TestNothingMore(t *testing.T) {
	for _, n := range sizes() {
		b := many(t, n)
		deep, nodes := b.x.Shape()
		for i := range n {
			b.put(t, numbered(2*i), -i)
			b.delete(t, numbered(2*i+1))
			if d, k := b.x.Shape(); d != deep || k != nodes || b.x.Len() != n {
				t.Fatalf("%d texts: Shape %d %d was %d %d", n, d, k, deep, nodes)
			}
		}
		same(t, b.x, b.l)
	}
}

// P13.2

// The ends of a range are a text of the tree, one between two, one below or above all, or none.
func TestEnds(t *testing.T) {
	for _, n := range sizes() {
		b := many(t, n)
		ends := []string{"", "\x00", "0", numbered(0), numbered(1), "9", "\xff"}
		for _, i := range []int{n / 3, n / 2, n - 2, n - 1, half, width} {
			i = max(i, 0)
			ends = append(ends, numbered(max(2*i-1, 0)), numbered(2*i), numbered(2*i)+"\x00", numbered(2*i+1), numbered(2*i+2))
		}
		for _, from := range ends {
			for _, to := range ends {
				sameRange(t, b.x, b.l, from, to)
			}
		}
	}
}

// Each text as each end, so that every edge between two leaves is one.
func TestEachEnd(t *testing.T) {
	b := many(t, 400)
	for i := -1; i <= 801; i++ {
		at := numbered(max(i, 0))
		sameRange(t, b.x, b.l, at, "")
		sameRange(t, b.x, b.l, "", at)
		sameRange(t, b.x, b.l, at, at)
		sameRange(t, b.x, b.l, at, at+"\x00")
		sameRange(t, b.x, b.l, at, numbered(i+40))
		sameRange(t, b.x, b.l, numbered(i+40), at)
	}
}

// The empty text is one that can be there, as the least; as from it is the least end, as to it is none.
func TestEmptyText(t *testing.T) {
	for _, n := range sizes() {
		b := many(t, n)
		b.put(t, "", 5)
		same(t, b.x, b.l)
		for _, at := range []string{"", "\x00", numbered(0), numbered(n)} {
			sameRange(t, b.x, b.l, "", at)
			sameRange(t, b.x, b.l, at, "")
		}
	}
}

// steps are what can be done to a tree while it is gone through.
func steps() map[string]func(x *Tree, at string, i int) {
	return map[string]func(x *Tree, at string, i int){
		"this one goes":     func(x *Tree, at string, i int) { x.Delete(at) },
		"this one changes":  func(x *Tree, at string, i int) { x.Put(at, -1) },
		"one comes behind":  func(x *Tree, at string, i int) { x.Put(at+"x", i) },
		"one comes at last": func(x *Tree, at string, i int) { x.Put("z"+numbered(i), i) },
		"one comes at first": func(x *Tree, at string, i int) {
			x.Put("", i)
			x.Put("-"+numbered(1000-i), i)
		},
		"all go": func(x *Tree, at string, i int) {
			for _, p := range all(x.Range("", "")) {
				x.Delete(p.text)
			}
		},
		"all change": func(x *Tree, at string, i int) {
			for text := range x.Back("", "") {
				x.Put(text, i)
			}
		},
		"all but one go, and others come": func(x *Tree, at string, i int) {
			for text := range x.Range("", "") {
				if text != at {
					x.Delete(text)
				}
				x.Put("y"+text[len(text)-1:], i)
			}
		},
		"only at first": func(x *Tree, at string, i int) {
			if i == 0 {
				for k := range 50 {
					x.Put(numbered(2*k+1), k)
					x.Delete(numbered(4 * k))
				}
			}
		},
	}
}

// What is handed on is what was there when the first one was asked for, whatever is done meanwhile; and the tree is what was done.
func TestChangesMeanwhile(t *testing.T) {
	for name, step := range steps() {
		for _, n := range []int{1, 2, width, width + 1, 60, 300} {
			for _, back := range []bool{false, true} {
				for _, ends := range [][2]string{{"", ""}, {numbered(n / 2), numbered(2*n - n/4)}, {numbered(n), ""}} {
					b := many(t, n)
					seq, want := b.x.Range(ends[0], ends[1]), b.l.between(ends[0], ends[1])
					if back {
						seq, want = b.x.Back(ends[0], ends[1]), falling(want)
					}
					var got []pair
					y := many(t, n).x
					for text, number := range seq {
						step(b.x, text, len(got))
						step(y, text, len(got))
						got = append(got, pair{text, number})
					}
					if !slices.Equal(got, want) {
						t.Fatalf("%s, %d texts, %q, back %v: %s, not %s", name, n, ends, back, told(got), told(want))
					}
					// The twin was changed with nobody going through it.
					twins(t, b.x, y)
				}
			}
		}
	}
}

// twins holds all that two trees answer against each other.
func twins(t *testing.T, x, y *Tree) {
	t.Helper()
	d, n := x.Shape()
	e, m := y.Shape()
	if d != e || n != m || x.Len() != y.Len() {
		t.Fatalf("Shape %d %d and %d %d, Len %d and %d", d, n, e, m, x.Len(), y.Len())
	}
	if a, b := all(x.Range("", "")), all(y.Range("", "")); !slices.Equal(a, b) {
		t.Fatalf("%s and %s", told(a), told(b))
	}
	sound(t, x)
	sound(t, y)
}

// A range is what there is when its first text is asked for, not when Range is called; and anew, whenever it is gone through again.
func TestWhenItIsAsked(t *testing.T) {
	for _, n := range sizes() {
		b := many(t, n)
		rise, fall := b.x.Range("", numbered(2*n)), b.x.Back(numbered(1), "")
		for i := range 60 {
			b.put(t, numbered(2*i+1), i)
			b.put(t, numbered(4*i), -i)
			b.delete(t, numbered(6*i))
			if got := all(rise); !slices.Equal(got, b.l.between("", numbered(2*n))) {
				t.Fatal(n, i, got)
			}
			if got := all(fall); !slices.Equal(got, falling(b.l.between(numbered(1), ""))) {
				t.Fatal(n, i, got)
			}
		}
		for _, p := range slices.Clone(b.l.pairs) {
			b.delete(t, p.text)
		}
		if got := append(all(rise), all(fall)...); len(got) > 0 {
			t.Fatal(n, got)
		}
		b.put(t, numbered(1), 1)
		if n > 0 && len(all(rise)) != 1 || len(all(fall)) != 1 {
			t.Fatal(n)
		}
	}
}

// One who ends early is handed on no more, and the tree goes on as if he had not asked.
func TestEndedEarly(t *testing.T) {
	b := many(t, 90)
	for count := 1; count <= 91; count++ {
		root := b.x.root
		want := b.l.between("", "")
		if got := first(b.x.Range("", ""), count); !slices.Equal(got, want[:min(count, len(want))]) {
			t.Fatal(count, got)
		}
		if got := first(b.x.Back("", ""), count); !slices.Equal(got, falling(want)[:min(count, len(want))]) {
			t.Fatal(count, got)
		}
		b.put(t, numbered(count), count)
		b.delete(t, numbered(count))
		b.put(t, numbered(2*count-2), -count)
		if b.x.root != root {
			t.Fatal("the nodes were made anew, and nobody went through them")
		}
		same(t, b.x, b.l)
	}
}

// asked calls a sequence by hand; how often it called back behind the false.
func asked(seq iter.Seq2[string, int], count int) (calls int) {
	seq(func(string, int) bool {
		calls++
		return calls < count
	})
	return calls
}

func TestNoCallBehindTheEnd(t *testing.T) {
	b := many(t, 500)
	for count := 1; count < 500; count += 7 {
		if n := asked(b.x.Range("", ""), count); n != count {
			t.Fatal(count, n)
		}
		if n := asked(b.x.Back("", ""), count); n != count {
			t.Fatal(count, n)
		}
	}
}

// Who panics while he is handed on gets his own panic, and the tree is as it was.
func TestPanicMeanwhile(t *testing.T) {
	for _, n := range []int{1, width, 90} {
		b := many(t, n)
		root := b.x.root
		for _, seq := range []iter.Seq2[string, int]{b.x.Range("", ""), b.x.Back("", "")} {
			for range 3 {
				func() {
					defer func() {
						if r := recover(); r != "mine" {
							t.Fatal(r)
						}
					}()
					for range seq {
						panic("mine")
					}
				}()
			}
		}
		b.put(t, numbered(0), 100)
		if b.x.root != root {
			t.Fatal("the nodes were made anew, and nobody went through them")
		}
		same(t, b.x, b.l)
	}
}

// walk is one who goes through a tree, and what he is yet to be handed on.
type walk struct {
	next func() (string, int, bool)
	stop func()
	want []pair
}

func (w *walk) step(t *testing.T) {
	t.Helper()
	text, n, ok := w.next()
	if !ok && len(w.want) == 0 && text == "" && n == 0 {
		return
	}
	if !ok || len(w.want) == 0 || w.want[0] != (pair{text, n}) {
		t.Fatalf("%q %d %v, not %s", text, n, ok, told(w.want))
	}
	w.want = w.want[1:]
}

// begin lets one go through a part of a tree, and asks for his first text.
func begin(t *testing.T, b both, r *rand.Rand) *walk {
	t.Helper()
	from, to := numbered(r.Intn(300)), numbered(r.Intn(300))
	if r.Intn(4) == 0 {
		to = ""
	}
	seq, want := b.x.Range(from, to), b.l.between(from, to)
	if r.Intn(2) == 0 {
		seq, want = b.x.Back(from, to), falling(want)
	}
	next, stop := iter.Pull2(seq)
	w := &walk{next, stop, want}
	w.step(t)
	return w
}

// Several go through one tree at a time, each begun at another time and ended at another; each is handed on what was there when it began.
func TestSeveralAtATime(t *testing.T) {
	for seed := range 60 {
		r := rand.New(rand.NewSource(int64(seed)))
		b := many(t, r.Intn(120))
		var walks []*walk
		for i := range 400 {
			switch k := r.Intn(10); {
			case k == 0:
				walks = append(walks, begin(t, b, r))
			case k < 5 && len(walks) > 0:
				walks[r.Intn(len(walks))].step(t)
			case k == 5 && len(walks) > 0:
				j := r.Intn(len(walks))
				walks[j].stop()
				walks = slices.Delete(walks, j, j+1)
			case k < 8:
				b.put(t, numbered(r.Intn(300)), i)
			default:
				b.delete(t, numbered(r.Intn(300)))
			}
		}
		for _, w := range walks {
			for range len(w.want) + 1 {
				w.step(t)
			}
			w.stop()
		}
		same(t, b.x, b.l)
	}
}

// One within another: each text with each text behind it.
func TestOneWithinAnother(t *testing.T) {
	b := many(t, 40)
	var got, want [][2]string
	for a := range b.x.Range("", "") {
		for c := range b.x.Back(a, "") {
			got = append(got, [2]string{a, c})
			b.x.Put(a+c, 1)
		}
		for c := range b.x.Range(a, a+"z") {
			b.x.Delete(c)
		}
	}
	for i := range 40 {
		for k := 39; k >= i; k-- {
			want = append(want, [2]string{numbered(2 * i), numbered(2 * k)})
		}
	}
	if !slices.Equal(got, want) || b.x.Len() != 0 {
		t.Error(len(got), len(want), b.x.Len())
	}
	sound(t, b.x)
}

// One who lays a text behind each that he is handed on comes to an end.
func TestItEnds(t *testing.T) {
	x := New()
	x.Put("a", 1)
	for range 10 {
		for text := range x.Range("", "") {
			x.Put(text+"a", 1)
		}
		for text := range x.Back("", "") {
			x.Put("\x00"+text, 1)
		}
	}
	if x.Len() != 121 {
		t.Error(x.Len())
	}
	sound(t, x)
}

// P13.3

// Behind each Put and Delete, in whatever order texts come and go.
func TestShape(t *testing.T) {
	for _, n := range []int{0, 1, 2, width, width + 1, 2*width + 1, 100, 700} {
		all := orders(n)
		for _, coming := range names(all) {
			for _, going := range names(all) {
				b := newBoth()
				for _, i := range all[coming] {
					b.put(t, numbered(i), i)
				}
				same(t, b.x, b.l)
				for k, i := range all[going] {
					if b.delete(t, numbered(i)); k%16 == 0 {
						sound(t, b.x)
					}
				}
				same(t, b.x, b.l)
			}
		}
	}
}

// Great trees have several levels, and few nodes and levels for their texts, however they come and go.
func TestGreatShape(t *testing.T) {
	const n = 30000
	all := orders(n)
	for _, name := range names(all) {
		x := New()
		for k, i := range all[name] {
			x.Put(numbered(i), i)
			shaped(t, x, k+1)
		}
		sound(t, x)
		if deep, nodes := x.Shape(); deep < 4 || deep > 5 || nodes > n/half+n/half/(half-1)+deep {
			t.Errorf("%s: %d %d", name, deep, nodes)
		}
		for k, i := range all["drawn"] {
			if got, ok := x.Delete(numbered(i)); got != i || !ok {
				t.Fatal(name, i, got, ok)
			}
			if shaped(t, x, n-k-1); k%5000 == 0 {
				sound(t, x)
			}
		}
		sound(t, x)
	}
}

// Few stay of many: one in each leaf, one in each dozen of leaves, the first, the last.
func TestFewStay(t *testing.T) {
	const n = 2000
	for name, stays := range map[string]func(i int) bool{
		"each eighth": func(i int) bool { return i%8 == 0 }, "each sixteenth": func(i int) bool { return i%16 == 15 },
		"each hundredth": func(i int) bool { return i%100 == 50 }, "the first": func(i int) bool { return i == 0 },
		"the last": func(i int) bool { return i == n-1 }, "a lump": func(i int) bool { return i/30 == 60 },
	} {
		for _, order := range []string{"rising", "falling", "drawn"} {
			b := newBoth()
			for _, i := range orders(n)[order] {
				b.put(t, numbered(i), i)
			}
			for _, i := range orders(n)["drawn"] {
				if !stays(i) {
					b.delete(t, numbered(i))
				}
			}
			if same(t, b.x, b.l); len(b.l.pairs) == 0 {
				t.Fatal(name)
			}
		}
	}
}

// Each text of each tree is taken away once, and one is laid in each gap.
func TestEachPlace(t *testing.T) {
	for n := range 290 {
		for _, grown := range []string{"rising", "falling"} {
			x := New()
			for _, i := range orders(n)[grown] {
				x.Put(numbered(2*i), i)
			}
			for i := n % 3; i < n; i += 3 {
				c := x.Copy()
				if got, ok := c.Delete(numbered(2 * i)); got != i || !ok {
					t.Fatal(n, i)
				}
				shaped(t, c, n-1)
				sound(t, c)
				c = x.Copy()
				if _, ok := c.Put(numbered(2*i+1), i); ok {
					t.Fatal(n, i)
				}
				shaped(t, c, n+1)
				sound(t, c)
			}
		}
	}
}

// Without a text there is neither a level nor a node, also where there was one.
func TestNoText(t *testing.T) {
	x := New()
	for range 3 {
		if deep, nodes := x.Shape(); deep != 0 || nodes != 0 || x.Len() != 0 {
			t.Fatal(deep, nodes, x.Len())
		}
		x.Put("a", 1)
		if deep, nodes := x.Shape(); deep != 1 || nodes != 1 || x.Len() != 1 {
			t.Fatal(deep, nodes, x.Len())
		}
		x.Delete("a")
	}
}

// P13.4

// Nothing done to a tree is seen in its Copy, nor the other way round.
func TestCopy(t *testing.T) {
	for _, n := range sizes() {
		for which := range 2 {
			b := many(t, n)
			c := b.copy()
			twins(t, b.x, c.x)
			changed, stays := b, c
			if which == 1 {
				changed, stays = c, b
			}
			was := all(stays.x.Range("", ""))
			for i := range n {
				changed.put(t, numbered(2*i+1), i)
				changed.put(t, numbered(2*i), -i-1)
				if i%2 == 0 {
					changed.delete(t, numbered(2*i))
				}
			}
			changed.put(t, "", 1)
			changed.put(t, "z", 1)
			if got := all(stays.x.Range("", "")); !slices.Equal(got, was) {
				t.Fatal(n, which)
			}
			same(t, stays.x, stays.l)
			same(t, changed.x, changed.l)
		}
	}
}

// Copies of copies go ways of their own, each with its list.
func TestManyCopies(t *testing.T) {
	for seed := range 30 {
		r := rand.New(rand.NewSource(int64(seed)))
		trees := []both{many(t, r.Intn(80))}
		for i := range 600 {
			b := trees[r.Intn(len(trees))]
			switch k := r.Intn(20); {
			case k == 0 && len(trees) < 6:
				trees = append(trees, b.copy())
			case k < 11:
				b.put(t, numbered(r.Intn(200)), i)
			default:
				b.delete(t, numbered(r.Intn(200)))
			}
		}
		for _, b := range trees {
			same(t, b.x, b.l)
		}
	}
}

// A Copy that is made while one goes through the tree, and one who goes through it, see nothing of each other.
func TestCopyMeanwhile(t *testing.T) {
	for _, back := range []bool{false, true} {
		b := many(t, 100)
		seq, want := b.x.Range("", ""), b.l.between("", "")
		if back {
			seq, want = b.x.Back("", ""), falling(want)
		}
		var got []pair
		for text, n := range seq {
			got = append(got, pair{text, n})
			c := b.copy()
			for i := range 100 {
				c.delete(t, numbered(2*i))
			}
			c.put(t, text, -1)
			same(t, c.x, c.l)
			if len(got)%10 == 0 {
				b.put(t, text+"x", 1)
			}
		}
		if !slices.Equal(got, want) {
			t.Error(got)
		}
		same(t, b.x, b.l)
	}
}

// P13.5

// Call by call a tree answers what the list does, over texts of few and of many kinds, growing, shrinking and staying.
func TestScripts(t *testing.T) {
	for seed := range 300 {
		r := rand.New(rand.NewSource(int64(seed)))
		kinds := []int{3, 20, 60, 200, 2000}[seed%5]
		draw := func() string { return numbered(r.Intn(kinds)) }
		if seed%3 == 0 {
			draw = func() string { return drawn(r, 3) }
		}
		b := newBoth()
		puts := 6
		for i := range 1500 {
			if i%300 == 0 {
				puts = []int{3, 5, 7, 9}[r.Intn(4)]
			}
			switch k := r.Intn(12); {
			case k == 0:
				b.get(t, draw())
			case k == 1 && i%4 == 0:
				sameRange(t, b.x, b.l, draw(), draw())
			case k < puts:
				b.put(t, draw(), i)
			default:
				b.delete(t, draw())
			}
			if i%250 == 0 {
				same(t, b.x, b.l)
			}
		}
		same(t, b.x, b.l)
	}
}

// drawn is a text of up to so many bytes, with few kinds of bytes.
func drawn(r *rand.Rand, long int) string {
	b := make([]byte, r.Intn(long+1))
	for i := range b {
		b[i] = "\x00\x01a\x7f\x80\xfe\xff"[r.Intn(7)]
	}
	return string(b)
}

func TestNilTree(t *testing.T) {
	var x *Tree
	if n, ok := x.Put("a", 1); n != 0 || ok {
		t.Error(n, ok)
	}
	if n, ok := x.Get("a"); n != 0 || ok {
		t.Error(n, ok)
	}
	if n, ok := x.Delete("a"); n != 0 || ok {
		t.Error(n, ok)
	}
	if deep, nodes := x.Shape(); deep != 0 || nodes != 0 || x.Len() != 0 {
		t.Error(deep, nodes, x.Len())
	}
	for _, ends := range [][2]string{{"", ""}, {"a", ""}, {"", "a"}, {"a", "b"}, {"b", "a"}} {
		if got := all(x.Range(ends[0], ends[1])); len(got) > 0 {
			t.Error(got)
		}
		if got := all(x.Back(ends[0], ends[1])); len(got) > 0 {
			t.Error(got)
		}
	}
	if c := x.Copy(); c != nil {
		t.Error(c)
	}
}
