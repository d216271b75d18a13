package index

import (
	"math/rand"
	"reflect"
	"slices"
	"sync"
	"testing"
	"unsafe"

	"scrivener/api"
	"scrivener/value"
	"scrivener/views"
)

// What holds everywhere: W1 to W9.

// lent is a text over bytes that can be changed behind its back, as no text can that is kept.
func lent(text string) string {
	b := []byte(text)
	return unsafe.String(unsafe.SliceData(b), len(b))
}

// lentValue is a value in memory of its own, with spare room behind its lists.
func lentValue(v api.Value) api.Value {
	v.Text = lent(v.Text)
	names, kids := v.Names, v.Kids
	v.Names, v.Kids = make([]string, 0, len(names)+2), make([]api.Value, 0, len(kids)+2)
	for _, name := range names {
		v.Names = append(v.Names, lent(name))
	}
	for _, kid := range kids {
		v.Kids = append(v.Kids, lentValue(kid))
	}
	room := v.Names[:cap(v.Names)]
	for i := len(names); i < len(room); i++ {
		room[i] = lent("spare")
	}
	return v
}

// lentBlock is a block in memory of its own, with spare room behind its entries.
func lentBlock(b api.Block) api.Block {
	list := make([]api.Entry, 0, len(b.Entries)+2)
	for _, e := range b.Entries {
		e.Text = lent(e.Text)
		e.Data = lentValue(e.Data)
		list = append(list, e)
	}
	room := list[:cap(list)]
	for i := len(list); i < len(room); i++ {
		room[i] = rev(1, 1, 1, 5)
	}
	b.Entries = list
	return b
}

func scribbleText(text string) {
	b := unsafe.Slice(unsafe.StringData(text), len(text))
	for i := range b {
		b[i] = '#'
	}
}

// scribbleValue writes over all that a value has, spare room too.
func scribbleValue(v api.Value) {
	scribbleText(v.Text)
	for _, name := range v.Names {
		scribbleText(name)
	}
	for _, kid := range v.Kids {
		scribbleValue(kid)
	}
	names, kids := v.Names[:cap(v.Names)], v.Kids[:cap(v.Kids)]
	for i := range names {
		names[i] = lent("#")
	}
	for i := range kids {
		kids[i] = api.Value{Kind: 99}
	}
}

func scribbleBlock(b api.Block) {
	for _, e := range b.Entries {
		scribbleText(e.Text)
		scribbleValue(e.Data)
	}
	room := b.Entries[:cap(b.Entries)]
	for i := range room {
		room[i] = api.Entry{Kind: 99}
	}
}

// scribbleNumbers writes over an answer and its spare room.
func scribbleNumbers(l []int) {
	room := l[:cap(l)]
	for i := range room {
		room[i] = -7
	}
}

// kindsBlocks are blocks of documents with fields of all kinds, some of which come, go and move.
func kindsBlocks() [][]api.Entry {
	var first, second, third []api.Entry
	kids := all()
	for i, x := range kids {
		if _, deep := value.Size(x); deep > 5 || len(x.Text) > 100 {
			x = nested(5)
		}
		first = append(first, revised(1, i+1, 0, object("field", x, "other", row(x, x))))
		second = append(second, revised(1, i+1, 1, object("field", row(x), "text", word("text"))))
	}
	for i := range 10 {
		third = append(third, redaction(2, i), deleted(1, len(kids)-i, 2))
	}
	return [][]api.Entry{
		{made(1, "table"), made(2, "empty"), indexed(1, "field")},
		append(first, indexed(1, "other")),
		append(second, indexed(2, "field"), indexed(1, "text")),
		third,
		{dropped(2), made(3, "empty"), indexed(3, "other"), said("said")},
	}
}

// W6, P16.3: a block is not kept, nor changed, nor the spare room behind it.
func TestBlockNotKept(t *testing.T) {
	b := newBoth()
	for _, list := range kindsBlocks() {
		x := b.next(list...)
		given, twin := lentBlock(x), lentBlock(x)
		b.s.Apply(b.v, given)
		if !reflect.DeepEqual(given, twin) || !reflect.DeepEqual(room(given), room(twin)) {
			t.Fatal("changed")
		}
		scribbleBlock(given)
		if e := b.v.Apply(x); e != api.OK {
			t.Fatal(e)
		}
		same(t, b.s, b.v, few())
	}
}

// room is all spare room of a block.
func room(b api.Block) []any {
	out := []any{b.Entries[len(b.Entries):cap(b.Entries)]}
	for _, e := range b.Entries {
		out = append(out, e.Data.Names[len(e.Data.Names):cap(e.Data.Names)], e.Data.Kids[len(e.Data.Kids):cap(e.Data.Kids)])
	}
	return out
}

// W6, P16.3: views are neither changed nor kept: what is done to them later a Set does not see.
func TestViewsNotKept(t *testing.T) {
	for seed := range 20 {
		r := rand.New(rand.NewSource(int64(seed)))
		b := newBoth()
		for range 25 {
			x := b.next(drawn(r, b)...)
			then := b.v.Copy()
			var old *Set
			unchanged(t, b.v, func() { old = Build(b.v); b.s.Apply(b.v, x) })
			was := b.v.Copy()
			if e := then.Apply(x); e != api.OK {
				t.Fatal(e)
			}
			// The Set is right for then by now, whether the views take the block or another one.
			if e := b.v.Apply(b.next(made(len(b.v.Catalog().All())+1, "another"), said("x"))); e != api.OK {
				t.Fatal(e)
			}
			same(t, b.s, then, asked(r))
			same(t, old, was, asked(r))
			b.v = then
		}
	}
}

// isEndless tells whether a value can't be gone through.
func isEndless(v api.Value) bool {
	return len(v.Kids) > 0 && len(v.Kids[0].Kids) > 0 && &v.Kids[0] == &v.Kids[0].Kids[0]
}

// W6: what is asked for is neither changed nor kept.
func TestAskedNotKept(t *testing.T) {
	b := newBoth()
	for _, list := range kindsBlocks() {
		b.do(t, list...)
	}
	for i, x := range append(all(), slices.DeleteFunc(none(), isEndless)...) {
		from, to, field := lentValue(x), lentValue(all()[i%40]), lent("field")
		fromTwin, toTwin := lentValue(x), lentValue(all()[i%40])
		one, _ := b.s.Equal(1, field, from)
		two, _ := b.s.Range(1, field, from, to)
		n := b.s.Len(1, field)
		if !reflect.DeepEqual(from, fromTwin) || !reflect.DeepEqual(to, toTwin) || field != "field" || !reflect.DeepEqual(from.Kids[:cap(from.Kids)], fromTwin.Kids[:cap(fromTwin.Kids)]) || !reflect.DeepEqual(from.Names[:cap(from.Names)], fromTwin.Names[:cap(fromTwin.Names)]) {
			t.Fatal(i, "changed")
		}
		scribbleValue(from)
		scribbleValue(to)
		scribbleText(field)
		l := lines(b.v, 1, "field")
		if !slices.Equal(one, equal(l, x)) || !slices.Equal(two, between(l, x, all()[i%40])) || n != len(l) {
			t.Fatal(i, one, two, n)
		}
	}
	same(t, b.s, b.v, few())
}

// W6, W7, P16.3: what is answered is new memory, and stays.
func TestNewMemory(t *testing.T) {
	b := shelf(t)
	ask := func() [][]int {
		x, _ := b.s.Equal(1, "a", number(5))
		y, _ := b.s.Range(1, "a", api.Value{}, api.Value{})
		z, _ := b.s.Range(1, "b", number(1), number(2))
		return [][]int{x, y, z}
	}
	want := [][]int{{1, 4, 11}, {7, 1, 4, 11, 2}, {3}}
	kept := ask()
	for range 3 {
		for i := range want {
			again := ask()
			scribbleNumbers(again[i])
			for k := range want {
				if k != i && !slices.Equal(again[k], want[k]) {
					t.Fatal(i, k, again[k])
				}
			}
		}
		same(t, b.s, b.v, few())
	}
	b.do(t, rev(1, 1, 1, 6), deleted(1, 4, 1), redaction(2, 0), rev(1, 3, 1, 5), indexed(1, "c"))
	b.do(t, dropped(1))
	if !reflect.DeepEqual(kept, want) {
		t.Error(kept)
	}
}

// P0.5: of what was redacted nothing is kept, not even where an index still has other documents.
func TestNothingIsKept(t *testing.T) {
	b := newBoth()
	b.do(t, made(1, "p"), indexed(1, "a"))
	for doc := 1; doc <= 150; doc++ {
		b.do(t, revised(1, doc, 0, object("a", word("hidden"+string(rune('a'+doc%26))))))
	}
	for doc := 1; doc <= 150; doc += 2 {
		b.do(t, b.at(1, doc, 0))
	}
	sound(t, b.s, b.v)
	if got := len(reachable(reflect.ValueOf(b.s.trees))); got != 75 {
		t.Error(got, "texts are kept")
	}
}

// reachable is all texts that begin with a key's byte for a Text and can be found in what is kept, with how often each of them is.
func reachable(v reflect.Value) map[string]int {
	out := map[string]int{}
	seen := map[unsafe.Pointer]bool{}
	var walk func(v reflect.Value)
	walk = func(v reflect.Value) {
		switch v.Kind() {
		case reflect.Pointer:
			if !v.IsNil() && !seen[v.UnsafePointer()] {
				seen[v.UnsafePointer()] = true
				walk(v.Elem())
			}
		case reflect.Struct:
			for i := range v.NumField() {
				walk(v.Field(i))
			}
		case reflect.Array, reflect.Slice:
			for i := range v.Len() {
				walk(v.Index(i))
			}
		case reflect.Map:
			for _, k := range v.MapKeys() {
				walk(v.MapIndex(k))
			}
		case reflect.String:
			if s := v.String(); len(s) > 6 && s[1:7] == "hidden" {
				out[s]++
			}
		}
	}
	walk(v)
	return out
}

// W2: Sets answer by what was done to them alone, asked meanwhile or not.
func TestTwins(t *testing.T) {
	for seed := range 20 {
		r := rand.New(rand.NewSource(int64(seed)))
		b, twin := newBoth(), Build(nil)
		for range 30 {
			x := b.next(drawn(r, b)...)
			twin.Apply(b.v, x)
			for _, y := range asked(r) {
				b.s.Equal(1, "a", y)
				b.s.Range(r.Intn(3), "b", y, number(6))
			}
			told(b.s)
			Build(b.v).Apply(b.v, x)
			b.apply(t, x)
		}
		if told(twin) != told(b.s) {
			t.Fatal(seed, told(twin), told(b.s))
		}
		same(t, twin, b.v, asked(r))
	}
}

// W8: one that is copied as a value goes on as that value.
func TestAsAValue(t *testing.T) {
	for _, from := range []both{shelf(t), newBoth()} {
		b := from
		for _, list := range [][]api.Entry{{made(len(b.v.Catalog().All())+1, "u")}, {indexed(1, "c")}, {revised(1, max(b.v.Next(1), 1), 0, object("a", number(5), "c", number(6)))}, {redaction(b.v.Blocks()+2, 0)}, {dropped(1)}} {
			s := *b.s
			b.s = &s
			b.do(t, list...)
			same(t, b.s, b.v, few())
		}
	}
}

// W9: Sets are objects of their own, each used by another goroutine at the same time.
func TestAtTheSameTime(t *testing.T) {
	whole := shelf(t)
	var list []both
	for range 8 {
		list = append(list, whole.copy())
	}
	var work sync.WaitGroup
	for i, b := range list {
		work.Go(func() {
			r := rand.New(rand.NewSource(int64(i)))
			for range 12 {
				x := b.next(drawn(r, b)...)
				b.s.Apply(b.v, x)
				b.v.Apply(x)
				told(b.s)
			}
		})
	}
	work.Wait()
	for _, b := range list {
		same(t, b.s, b.v, few())
	}
	same(t, whole.s, whole.v, few())
}

// W1: a call ends, and does not panic, whatever a block has, also where views refuse it; behind those that they take all is right.
func TestAnyBlock(t *testing.T) {
	whole := shelf(t)
	within := endless()
	r := rand.New(rand.NewSource(1))
	taken := 0
	for range 4000 {
		var list []api.Entry
		for range r.Intn(4) {
			pick := func() int {
				return []int{-1, 0, 0, 1, 1, 1, 1, 2, 3, 4, 5, 6, 15, 64, 65, 1 << 31, -1 << 63, 1<<63 - 1}[r.Intn(18)]
			}
			e := api.Entry{Kind: r.Intn(10) - 1, Table: pick(), Doc: pick(), Version: pick(), At: api.Address{Block: pick(), Entry: pick()}, Gone: r.Intn(2) == 0}
			e.Text = []string{"", "a", "c", "\xff\x00"}[r.Intn(4)]
			e.Data = []api.Value{{}, number(1), within, {Kind: 77}, object("a", within), object("a", number(5))}[r.Intn(6)]
			switch r.Intn(4) {
			case 0:
				e = []api.Entry{made(e.Table, e.Text), dropped(e.Table), indexed(e.Table, e.Text), deleted(e.Table, e.Doc, e.Version), redaction(e.At.Block, e.At.Entry), said("x"), rev(e.Table, e.Doc, e.Version, 6)}[r.Intn(7)]
			case 1, 2:
				e = drawnEntry(r, whole.v, len(list))
			}
			list = append(list, e)
		}
		b := whole.copy()
		x := b.next(list...)
		x.Index += []int{0, 0, 0, 1, -1, -9, 1 << 40}[r.Intn(7)]
		unchanged(t, b.v, func() { b.s.Apply(b.v, x) })
		told(b.s)
		if b.v.Apply(x) == api.OK {
			same(t, b.s, b.v, few())
			taken++
		}
	}
	if taken < 100 {
		t.Error(taken, "blocks were taken")
	}
}

// W1, W8: nil views, views that New did not make, and blocks of which there is no way to be taken.
func TestStrangeViews(t *testing.T) {
	b := shelf(t)
	b.s.Apply(nil, b.next(rev(1, 15, 0, 5)))
	if got := told(b.s); got != onShelf {
		t.Error(got)
	}
	for _, v := range []*views.Views{nil, views.New(), new(views.Views)} {
		for _, x := range []api.Block{{}, b.next(), b.next(rev(1, 1, 1, 5), indexed(1, "a"), dropped(1)), b.next(made(1, "p"), indexed(1, "a"), rev(1, 1, 0, 5)), b.next(make([]api.Entry, 300)...)} {
			s := Build(v)
			s.Apply(v, x)
			shelf(t).s.Apply(v, x)
			told(s)
		}
	}
}

// follow does what a script of any bytes says, to several views and Sets.
func follow(t *testing.T, script []byte) {
	list := []both{newBoth()}
	var entries []api.Entry
	for i := 0; len(script) > 3 && i < 200; i++ {
		op, x, y, z := script[0], int(script[1]), int(script[2]), int(script[3])
		script = script[4:]
		b := &list[int(op>>4)%len(list)]
		tables := len(b.v.Catalog().All())
		field := []string{"a", "b", "c"}[z%3]
		switch op % 16 {
		case 0:
			entries = append(entries, made(tables+1, string(rune('a'+y%8))))
		case 1:
			entries = append(entries, dropped(x%8))
		case 2, 3:
			entries = append(entries, indexed(1+x%5, field))
		case 4, 5, 6:
			entries = append(entries, revised(1+x%5, max(b.v.Next(1+x%5), 1)+y%2, 0, object(field, all()[z%len(all())])))
		case 7, 8:
			entries = append(entries, revised(1+x%5, 1+y%6, z%5, object(field, number(y%4))))
		case 9:
			entries = append(entries, hidden(1+x%5, 1+y%6, z%5))
		case 10:
			entries = append(entries, deleted(1+x%5, 1+y%6, z%5))
		case 11:
			entries = append(entries, redaction(x%(b.v.Blocks()+1), y%8))
		case 12:
			if len(list) < 4 {
				list = append(list, b.copy())
			}
		default:
			next := b.next(entries...)
			s := Build(b.v)
			s.Apply(b.v, next)
			told(s)
			if b.v.Copy().Apply(next) == api.OK {
				b.apply(t, next)
			}
			entries = nil
		}
	}
	for _, b := range list {
		same(t, b.s, b.v, few())
		same(t, Build(b.v), b.v, few())
	}
}

// P0.7, W1: any bytes as a script.
func TestAnyScript(t *testing.T) {
	for seed := range 200 {
		r := rand.New(rand.NewSource(int64(seed)))
		script := make([]byte, r.Intn(800))
		r.Read(script)
		follow(t, script)
	}
}

func FuzzAnyBytes(f *testing.F) {
	f.Add([]byte("\x00\x00\x00\x00\x04\x00\x00\x00\x02\x00\x00\x00\x0d\x00\x00\x00\x07\x00\x00\x01\x0b\x00\x01\x00\x0d\x00\x00\x00"))
	f.Add([]byte("\x00\x00\x00\x00\x02\x00\x00\x00\x04\x00\x00\x00\x0d\x00\x00\x00\x0c\x00\x00\x00\x0a\x00\x00\x01\x1d\x00\x00\x00\x01\x01\x00\x00\x0d\x00\x00\x00"))
	f.Fuzz(follow)
}
