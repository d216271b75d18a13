package catalog

import (
	"math/rand"
	"slices"
	"strings"
	"sync"
	"testing"
	"unsafe"

	"scrivener/api"
)

// What holds everywhere: W1 to W9.

// lent is a text over bytes that can be changed behind its back, as no text can that is kept.
func lent(text string) (string, []byte) {
	b := []byte(text)
	return unsafe.String(unsafe.SliceData(b), len(b)), b
}

func scribble(b []byte) {
	for i := range b {
		b[i] = '#'
	}
}

// scribbleText writes over a text that was answered.
func scribbleText(text string) {
	scribble(unsafe.Slice(unsafe.StringData(text), len(text)))
}

// scribbleTable writes over all that a table that was answered has, spare room too.
func scribbleTable(x Table) {
	scribbleText(x.Name)
	for _, i := range x.Indexes {
		scribbleText(i.Field)
	}
	room := x.Indexes[:cap(x.Indexes)]
	for i := range room {
		room[i] = Index{"#"}
	}
}

// W6: what is handed in is neither kept nor changed.
func TestNotKept(t *testing.T) {
	for _, n := range []int{1, 2, 5, 64} {
		b := newBoth()
		for id := 1; id <= n; id++ {
			for _, e := range []api.Entry{made(id, named(id)), indexed(id, "f"), indexed(id, "g"), indexed(id, "f"), made(id+1, named(id)), indexed(id, "")} {
				want := b.l.apply(e)
				text, bytes := lent(e.Text)
				if got := b.c.Apply(api.Entry{Kind: e.Kind, Table: e.Table, Text: text}); got != want || string(bytes) != e.Text {
					t.Fatal(id, e, got, string(bytes))
				}
				scribble(bytes)
				text, bytes = lent(e.Text)
				b.c.Find(text)
				b.c.Has(id, text)
				if string(bytes) != e.Text {
					t.Fatal(string(bytes))
				}
				scribble(bytes)
			}
		}
		same(t, b.c, b.l)
		for id := 1; id <= n; id += 2 {
			b.must(t, dropped(id))
		}
		same(t, b.c, b.l)
	}
}

// W6: an entry's Data is left alone.
func TestDataNotChanged(t *testing.T) {
	c := New()
	kids := []api.Value{{Kind: api.Int, Int: 4}, {Kind: api.Text, Text: "x"}, {Kind: 99}}
	names := []string{"a", "b", "c"}
	for kind := range 9 {
		c.Apply(api.Entry{Kind: kind, Table: 1, Text: "a", Data: api.Value{Kind: api.Struct, Names: names[:2], Kids: kids[:2]}})
	}
	if kids[0].Int != 4 || kids[1].Text != "x" || kids[2].Kind != 99 || !slices.Equal(names, []string{"a", "b", "c"}) {
		t.Error(kids, names)
	}
}

// W6, P14.3: what is answered is new memory: who writes over it, or behind its end, changes no catalog, no copy and no other answer.
func TestNewMemory(t *testing.T) {
	b := tables(t, 40)
	b.must(t, indexed(40, "last"))
	c := b.copy()
	all, want := b.c.All(), b.l.all()
	one, _ := b.c.Find("t4")
	two, _ := b.c.Table(4)
	for _, d := range []both{b, c} {
		for id := 1; id <= 40; id++ {
			x, _ := d.c.Find(named(id))
			scribbleTable(x)
			x, _ = d.c.Table(id)
			scribbleTable(x)
		}
		list := d.c.All()
		for i, x := range list {
			scribbleTable(x)
			list[i] = Table{}
		}
		_ = append(list, Table{ID: 99})
	}
	same(t, b.c, b.l)
	same(t, c.c, c.l)
	if !slices.EqualFunc(all, want, sameTable) || !sameTable(one, want[3]) || !sameTable(two, want[3]) {
		t.Error("an answer was written over")
	}
}

// W6: no two lists of one answer share memory, spare room too.
func TestNoTwoListsShare(t *testing.T) {
	b := tables(t, 40)
	want := b.l.all()
	for i := range want {
		all := b.c.All()
		scribbleTable(all[i])
		for k := range all {
			if k != i && !sameTable(all[k], want[k]) {
				t.Fatal(i, k, all[k])
			}
		}
	}
}

// W7: what was answered stays.
func TestAnswersStay(t *testing.T) {
	for _, n := range sizes() {
		b := tables(t, n)
		all, want := b.c.All(), b.l.all()
		var single []Table
		for id := 1; id <= n; id++ {
			x, _ := b.c.Table(id)
			single = append(single, x)
		}
		change(t, b)
		for id := 1; id <= n; id++ {
			b.apply(t, dropped(id))
		}
		if !slices.EqualFunc(all, want, sameTable) || !slices.EqualFunc(single, want, sameTable) {
			t.Error(n, "an answer changed")
		}
	}
}

// W2: a catalog answers by what was done to it alone, asked meanwhile or not.
func TestTwins(t *testing.T) {
	for seed := range 50 {
		r := rand.New(rand.NewSource(int64(seed)))
		x, y := New(), New()
		for range 500 {
			e := drawn(r, len(x.All()), 3)
			x.Find(e.Text)
			x.Has(e.Table, e.Text)
			x.Copy().Apply(e)
			if x.Apply(e) != y.Apply(e) {
				t.Fatal(seed, e)
			}
		}
		if !slices.EqualFunc(x.All(), y.All(), sameTable) {
			t.Fatal(seed)
		}
	}
}

// W8: one that is copied as a value goes on as that value; a Catalog that New did not make is one without a table.
func TestAsAValue(t *testing.T) {
	for _, n := range sizes() {
		b := tables(t, n)
		value := *b.c
		b.c = &value
		change(t, b)
		same(t, b.c, b.l)
	}
	for range 2 {
		var zero Catalog
		b := both{&zero, &log{}}
		same(t, b.c, b.l)
		c := b.copy()
		b.apply(t, dropped(1))
		b.apply(t, indexed(1, "f"))
		b.must(t, made(1, "a"), indexed(1, "f"), dropped(1))
		same(t, b.c, b.l)
		same(t, c.c, c.l)
		change(t, c)
		same(t, c.c, c.l)
	}
}

// W9: a catalog and its Copies are objects of their own, each used by another goroutine at the same time.
func TestAtTheSameTime(t *testing.T) {
	b := tables(t, 30)
	list := []both{b}
	for range 8 {
		list = append(list, b.copy())
	}
	var work sync.WaitGroup
	for i, x := range list {
		work.Go(func() {
			r := rand.New(rand.NewSource(int64(i)))
			for range 300 {
				e := drawn(r, len(x.c.All()), 4)
				x.c.Apply(e)
				x.l.apply(e)
				x.c.Find(e.Text)
				x.c.Has(e.Table, e.Text)
				x.c.Copy()
			}
		})
	}
	work.Wait()
	for _, x := range list {
		same(t, x.c, x.l)
	}
}

// follow does what a script of any bytes says, to several catalogs and logs.
func follow(t *testing.T, script []byte) {
	list := []both{newBoth()}
	for i := 0; len(script) > 1; i++ {
		op, id := script[0], int(int8(script[1]))
		size := min(int(op>>4), len(script)-2)
		text := string(script[2 : 2+size])
		script = script[2+size:]
		b := list[i%len(list)]
		next := len(b.l.all()) + 1
		switch op % 16 {
		case 0, 1, 2:
			b.apply(t, made(next, text))
		case 3:
			b.apply(t, made(id, text))
		case 4:
			b.apply(t, dropped(id))
		case 5, 6:
			b.apply(t, indexed(id, text))
		case 7:
			b.apply(t, indexed(next-1, text))
		case 8:
			for k := range 17 {
				b.apply(t, indexed(next-1, text+named(k)))
			}
		case 9:
			for k := range 70 {
				b.apply(t, made(next+k, text+named(k)))
			}
		case 10:
			b.apply(t, indexed(id, text+strings.Repeat("n", 40-size/2)))
		case 11:
			b.apply(t, made(next, text+strings.Repeat("n", 40-size/2)))
		case 12:
			if len(list) < 4 {
				list = append(list, b.copy())
			}
		default:
			b.apply(t, api.Entry{Kind: id, Table: next, Text: text})
		}
		sound(t, b.c)
	}
	for _, b := range list {
		same(t, b.c, b.l)
	}
}

// P0.7, W1: any bytes as a script.
func TestAnyScript(t *testing.T) {
	for seed := range 100 {
		r := rand.New(rand.NewSource(int64(seed)))
		script := make([]byte, r.Intn(1500))
		r.Read(script)
		follow(t, script)
	}
}

func FuzzAnyBytes(f *testing.F) {
	f.Add([]byte("\x10\x00a\x10\x00a\x04\x01\x10\x00a\x16\x02f\x07\x00\x0c\x00"))
	f.Add([]byte("\x19\x00a\x04\x03\x18\x00b\x0c\x00\x10\x00z\x0b\x00\x1a\x05z"))
	f.Fuzz(follow)
}
