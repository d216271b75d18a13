package tree

import (
	"math/rand"
	"slices"
	"strings"
	"sync"
	"testing"
	"unsafe"
)

// What holds everywhere: W1 to W9.

// lent is a text over bytes that can be changed behind its back, as no text can that is kept.
func lent(text string) (string, []byte) {
	b := []byte(text)
	return unsafe.String(unsafe.SliceData(b), len(b)), b
}

func scribble(b []byte) {
	for i := range b {
		b[i] = '#'
	}
}

// scribbleText writes over a text that was answered, spare room or not.
func scribbleText(text string) {
	scribble(unsafe.Slice(unsafe.StringData(text), len(text)))
}

// W6: what is handed in is not kept, neither by a tree nor by a range that is yet to be gone through.
func TestNotKept(t *testing.T) {
	for _, n := range []int{1, 5, width + 1, 300} {
		b := newBoth()
		for _, i := range orders(n)["drawn"] {
			text, bytes := lent(numbered(2 * i))
			b.x.Put(text, i)
			b.l.put(numbered(2*i), i)
			scribble(bytes)
			text, bytes = lent(numbered(2 * i))
			b.x.Put(text, i)
			scribble(bytes)
		}
		same(t, b.x, b.l)
		from, bytes := lent(numbered(n / 2))
		to, more := lent(numbered(n + 1))
		rise, fall := b.x.Range(from, to), b.x.Back(from, to)
		scribble(bytes)
		scribble(more)
		want := b.l.between(numbered(n/2), numbered(n+1))
		if got := all(rise); !slices.Equal(got, want) {
			t.Fatal(n, got)
		}
		if got := all(fall); !slices.Equal(got, falling(want)) {
			t.Fatal(n, got)
		}
		for i := range n {
			text, bytes := lent(numbered(2 * i))
			b.x.Get(text)
			if i%2 == 0 {
				b.x.Delete(text)
				b.l.delete(numbered(2 * i))
			}
			scribble(bytes)
		}
		same(t, b.x, b.l)
	}
}

// W6: what is handed in is not changed.
func TestNotChanged(t *testing.T) {
	b := many(t, 40)
	for i := range 100 {
		text, bytes := lent(numbered(i))
		b.x.Put(text, i)
		b.x.Get(text)
		all(b.x.Range(text, ""))
		all(b.x.Back("", text))
		b.x.Delete(text)
		if string(bytes) != numbered(i) {
			t.Fatal(string(bytes))
		}
	}
}

// W6: what is answered is new memory: who writes over it changes no tree, no copy and no other answer.
func TestNewMemory(t *testing.T) {
	b := many(t, 300)
	c := b.copy()
	other := all(b.x.Range("", ""))
	for text := range b.x.Range("", "") {
		scribbleText(text)
	}
	for text := range b.x.Back("", "") {
		scribbleText(text)
	}
	for text := range c.x.Range("", "") {
		scribbleText(text)
	}
	same(t, b.x, b.l)
	same(t, c.x, c.l)
	if !slices.Equal(other, b.l.pairs) {
		t.Error("an answer was written over")
	}
}

// W7: what was answered stays.
func TestAnswersStay(t *testing.T) {
	b := many(t, 300)
	rise, fall, was := all(b.x.Range("", "")), all(b.x.Back("", "")), b.l.between("", "")
	for i := range 300 {
		b.delete(t, numbered(2*i))
		b.put(t, numbered(2*i+1), i)
	}
	if !slices.Equal(rise, was) || !slices.Equal(fall, falling(was)) {
		t.Error("an answer changed")
	}
}

// W2: a tree answers by what was done to it alone.
func TestTwins(t *testing.T) {
	for seed := range 20 {
		x, y := New(), New()
		r := rand.New(rand.NewSource(int64(seed)))
		for i := range 2000 {
			text := drawn(r, 4)
			if r.Intn(3) == 0 {
				x.Delete(text)
				y.Delete(text)
				continue
			}
			x.Put(text, i)
			for range y.Range(text, "") { // asked, and ended early
				break
			}
			y.Put(text, i)
		}
		twins(t, x, y)
	}
}

// W8: one that is copied as a value goes on as that value; a Tree that New did not make is one without a text.
func TestAsAValue(t *testing.T) {
	b := many(t, 200)
	value := *b.x
	b.x = &value
	for i := range 100 {
		b.put(t, numbered(2*i+1), i)
		b.delete(t, numbered(4*i))
	}
	same(t, b.x, b.l)
	var zero Tree
	twins(t, &zero, New())
	twins(t, zero.Copy(), New())
	b = both{&zero, &list{}}
	b.get(t, "")
	b.delete(t, "")
	b.put(t, "", 1)
	b.put(t, "a", 2)
	same(t, b.x, b.l)
}

// W9: a tree and its Copies are objects of their own, each used by another goroutine at the same time.
func TestAtTheSameTime(t *testing.T) {
	b := many(t, 300)
	var work sync.WaitGroup
	done := make([]both, 8)
	for i := range done {
		done[i] = b.copy()
	}
	done = append(done, b)
	for i, c := range done {
		work.Go(func() {
			for k := range 200 {
				c.x.Put(numbered(2*k+i%2), i)
				c.l.put(numbered(2*k+i%2), i)
				for text := range c.x.Range(numbered(k), numbered(k+20)) {
					c.x.Delete(text)
					c.l.delete(text)
					break
				}
			}
		})
	}
	work.Wait()
	for _, c := range done {
		same(t, c.x, c.l)
	}
}

// W1: texts of any length.
func TestLongTexts(t *testing.T) {
	b := newBoth()
	long := strings.Repeat("\xff", 1<<20)
	for i := range 40 {
		b.put(t, long[:1<<20-i], i)
		b.put(t, long[i:]+"a", i)
	}
	same(t, b.x, b.l)
	sameRange(t, b.x, b.l, long[5:], long)
	for i := range 40 {
		b.delete(t, long[:1<<20-i])
	}
	same(t, b.x, b.l)
}

// follow does what a script of any bytes says, to several trees and lists.
func follow(t *testing.T, script []byte) {
	trees := []both{newBoth()}
	var walks []*walk
	for i := 0; len(script) > 0; i++ {
		op := script[0]
		size := min(int(op>>4), len(script)-1)
		text := string(script[1 : 1+size])
		script = script[1+size:]
		b := trees[i%len(trees)]
		switch op % 8 {
		case 0, 1:
			b.put(t, text, i)
		case 2:
			for k := range 20 {
				b.put(t, text+string(rune('a'+k*7%20)), k)
			}
		case 3:
			b.delete(t, text)
		case 4:
			for _, p := range b.l.between(text, text+"z") {
				b.delete(t, p.text)
			}
		case 5:
			sameRange(t, b.x, b.l, text[:size/2], text[size/2:])
		case 6:
			if len(trees) < 4 {
				trees = append(trees, b.copy())
			}
		case 7:
			if len(walks) > 0 && size == 0 {
				walks[0].step(t)
			} else if r := rand.New(rand.NewSource(int64(i))); len(walks) < 3 {
				walks = append([]*walk{begin(t, b, r)}, walks...)
			}
		}
	}
	for _, w := range walks {
		for range len(w.want) + 1 {
			w.step(t)
		}
		w.stop()
	}
	for _, b := range trees {
		same(t, b.x, b.l)
	}
}

// P0.7, W1: any bytes as a script.
func TestAnyScript(t *testing.T) {
	for seed := range 400 {
		r := rand.New(rand.NewSource(int64(seed)))
		script := make([]byte, r.Intn(2000))
		r.Read(script)
		follow(t, script)
	}
}

func FuzzAnyBytes(f *testing.F) {
	f.Add([]byte("\x02\x12a\x06\x07\x03\x14a\x05\x25ab"))
	f.Add([]byte("\x12b\x12c\x12d\x12e\x07\x07\x13ca\x14c\x24d\x07\x07"))
	f.Fuzz(follow)
}
