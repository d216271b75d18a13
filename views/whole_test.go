package views

import (
	"fmt"
	"math/rand"
	"reflect"
	"slices"
	"sync"
	"testing"
	"unsafe"

	"scrivener/api"
)

// What holds everywhere: W1 to W9.

// lent is a text over bytes that can be changed behind its back, as no text can that is kept.
func lent(text string) string {
	b := []byte(text)
	return unsafe.String(unsafe.SliceData(b), len(b))
}

// lentValue is a value in memory of its own, with spare room behind its lists.
func lentValue(v api.Value) api.Value {
	v.Text = lent(v.Text)
	names, kids := v.Names, v.Kids
	v.Names, v.Kids = make([]string, 0, len(names)+2), make([]api.Value, 0, len(kids)+2)
	for _, name := range names {
		v.Names = append(v.Names, lent(name))
	}
	for _, kid := range kids {
		v.Kids = append(v.Kids, lentValue(kid))
	}
	room := v.Names[:cap(v.Names)]
	for i := len(names); i < len(room); i++ {
		room[i] = lent("spare")
	}
	return v
}

// lentBlock is a block in memory of its own, with spare room behind its entries.
func lentBlock(b api.Block) api.Block {
	list := make([]api.Entry, 0, len(b.Entries)+2)
	for _, e := range b.Entries {
		e.Text = lent(e.Text)
		e.Data = lentValue(e.Data)
		list = append(list, e)
	}
	b.Entries = list
	return b
}

func scribbleText(text string) {
	b := unsafe.Slice(unsafe.StringData(text), len(text))
	for i := range b {
		b[i] = '#'
	}
}

// scribbleValue writes over all that a value has, spare room too.
func scribbleValue(v api.Value) {
	scribbleText(v.Text)
	for _, name := range v.Names {
		scribbleText(name)
	}
	for _, kid := range v.Kids {
		scribbleValue(kid)
	}
	names, kids := v.Names[:cap(v.Names)], v.Kids[:cap(v.Kids)]
	for i := range names {
		names[i] = lent("#")
	}
	for i := range kids {
		kids[i] = api.Value{Kind: 99}
	}
}

func scribbleBlock(b api.Block) {
	for _, e := range b.Entries {
		scribbleText(e.Text)
		scribbleValue(e.Data)
	}
	room := b.Entries[:cap(b.Entries)]
	for i := range room {
		room[i] = api.Entry{Kind: 99}
	}
}

func scribbleRows(list []Row) {
	for _, x := range list {
		scribbleValue(x.Data)
	}
	room := list[:cap(list)]
	for i := range room {
		room[i] = Row{Table: -1}
	}
}

// nestedBlocks are blocks of documents with values of all Kinds.
func nestedBlocks() [][]api.Entry {
	return [][]api.Entry{
		{made(1, "tables"), indexed(1, "field"), revised(1, 1, 0, nested("one")), revised(1, 2, 0, nested("two")), said("said")},
		{revised(1, 1, 1, nested("three")), revised(1, 3, 0, api.Value{Kind: api.Text, Text: "four"}), revised(1, 4, 0, api.Value{Kind: api.Blob, Text: "five"})},
		{redacted(0, 3), revised(1, 5, 0, api.Value{Kind: api.List, Kids: []api.Value{nested("six"), nested("six")}}), deleted(1, 4, 1)},
	}
}

// full is a both of the nested blocks.
func full(t *testing.T) both {
	t.Helper()
	b := newBoth()
	for _, list := range nestedBlocks() {
		b.must(t, list...)
	}
	return b
}

// W6, P15.4: what is handed in is not kept, whether it is taken or refused.
func TestNotKept(t *testing.T) {
	b := newBoth()
	for _, list := range nestedBlocks() {
		for _, more := range [][]api.Entry{{dropped(60)}, {}} {
			x := b.next(append(slices.Clone(list), more...)...)
			want := b.l.apply(x)
			given := lentBlock(x)
			if got := b.v.Apply(given); got != want {
				t.Fatal(got, want)
			}
			scribbleBlock(given)
			same(t, b.v, b.l)
		}
	}
	if len(b.v.Docs(1)) != 3 {
		t.Error(b.v.Docs(1))
	}
}

// W6, P15.4: what is handed in is not changed, nor the spare room behind it.
func TestNotChanged(t *testing.T) {
	b := newBoth()
	for _, list := range nestedBlocks() {
		for _, more := range [][]api.Entry{{dropped(60)}, {}} {
			x := b.next(append(slices.Clone(list), more...)...)
			given, twin := lentBlock(x), lentBlock(x)
			b.apply(t, given)
			scribbleAnswers(b.v.Copy())
			if !reflect.DeepEqual(given, twin) || !reflect.DeepEqual(room(given), room(twin)) {
				t.Fatal("changed")
			}
		}
	}
}

// room is all spare room of a block.
func room(b api.Block) []any {
	out := []any{b.Entries[len(b.Entries):cap(b.Entries)]}
	for _, e := range b.Entries {
		out = append(out, e.Data.Names[len(e.Data.Names):cap(e.Data.Names)], e.Data.Kids[len(e.Data.Kids):cap(e.Data.Kids)])
	}
	return out
}

// scribbleAnswers writes over all that views answer.
func scribbleAnswers(v *Views) {
	for table := range 4 {
		scribbleRows(v.Docs(table))
		scribbleRows(v.History(table))
		for doc := range 8 {
			x, _ := v.Doc(table, doc)
			scribbleValue(x.Data)
		}
	}
}

// W6, P15.4: what is answered is new memory: who writes over it, or behind its end, changes no views, no copy and no other answer.
func TestNewMemory(t *testing.T) {
	b := full(t)
	c := b.copy()
	r := b.l.read()
	docs, all := b.v.Docs(1), b.v.History(1)
	x, _ := b.v.Doc(1, 1)
	for _, d := range []both{b, c, b.copy(), c.copy()} {
		scribbleAnswers(d.v)
		scribbleAnswers(d.v.Copy())
		same(t, d.v, d.l)
	}
	same(t, b.v, b.l)
	if want, _ := r.doc(1, 1); !sameRows(docs, r.all(1)) || !sameRows(all, r.history(1)) || !sameRow(x, want) {
		t.Error("an answer was written over")
	}
}

// W6: no two lists of one answer share memory, spare room too.
func TestNoTwoListsShare(t *testing.T) {
	b := full(t)
	r := b.l.read()
	for name, x := range map[string]struct {
		ask  func() []Row
		want []Row
	}{
		"Docs":    {func() []Row { return b.v.Docs(1) }, r.all(1)},
		"History": {func() []Row { return b.v.History(1) }, r.history(1)},
	} {
		for i := range x.want {
			got := x.ask()
			scribbleValue(got[i].Data)
			for k := range got {
				if k != i && !sameRow(got[k], x.want[k]) {
					t.Fatal(name, i, k, got[k])
				}
			}
		}
	}
	// Within one value: its last document has the same Kid twice.
	got, _ := b.v.Doc(1, 5)
	want, _ := r.doc(1, 5)
	scribbleValue(got.Data.Kids[0])
	if !sameData(got.Data.Kids[1], want.Data.Kids[1]) {
		t.Error(got)
	}
}

// W7: what was answered stays, also where its data go.
func TestAnswersStay(t *testing.T) {
	b := shelf(t)
	var docs, all [][]Row
	r := b.l.read()
	for table := range 6 {
		docs, all = append(docs, b.v.Docs(table)), append(all, b.v.History(table))
	}
	for _, list := range changes() {
		b.must(t, list...)
	}
	b.must(t, redacted(1, 0), redacted(0, 4), dropped(1))
	for table := range 6 {
		if !sameRows(docs[table], r.all(table)) || !sameRows(all[table], r.history(table)) {
			t.Error(table, "an answer changed")
		}
	}
}

// P0.5: of what was redacted nothing is kept, wherever it stood.
func TestNothingIsKept(t *testing.T) {
	b := full(t)
	for _, at := range [][2]int{{0, 2}, {1, 0}, {1, 1}, {1, 2}, {2, 1}} {
		b.must(t, redacted(at[0], at[1]))
	}
	for a, k := range b.v.rows {
		if !reflect.DeepEqual(k.Data, api.Value{}) || !k.Gone && !k.Deleted {
			t.Error(a, k)
		}
	}
	same(t, b.v, b.l)
}

// W5: lists without an element may be nil or empty where nothing is asked for.
func TestEmptyLists(t *testing.T) {
	b := newBoth()
	empty := func(e api.Entry) api.Entry {
		e.Data.Names, e.Data.Kids = []string{}, []api.Value{}
		return e
	}
	b.must(t, empty(made(1, "a")), empty(revised(1, 1, 0, number(1))), empty(hidden(1, 2, 0)))
	b.must(t, empty(redacted(0, 2)), empty(deleted(1, 1, 1)), empty(said("x")), empty(indexed(1, "f")))
	b.must(t, empty(dropped(1)))
	for _, x := range b.v.History(1) {
		if x.Gone || x.Deleted {
			if !reflect.DeepEqual(x.Data, api.Value{}) {
				t.Error(x)
			}
		}
	}
	same(t, b.v, b.l)
}

// W2: views answer by what was done to them alone, asked meanwhile or not.
func TestTwins(t *testing.T) {
	for seed := range 40 {
		r := rand.New(rand.NewSource(int64(seed)))
		b, twin := newBoth(), New()
		for range 40 {
			x := b.next(drawnBlock(r, b)...)
			b.v.Catalog().All()
			b.v.Copy().Apply(x)
			b.v.Docs(1)
			b.v.History(r.Intn(3))
			b.v.Doc(1, r.Intn(5))
			b.l.apply(x)
			if b.v.Apply(x) != twin.Apply(x) {
				t.Fatal(seed, x)
			}
		}
		same(t, twin, b.l)
		sameViews(t, b.v, twin)
	}
}

// W8: one that is copied as a value goes on as that value; Views that New did not make are without a document.
func TestAsAValue(t *testing.T) {
	b := newBoth()
	for _, list := range [][]api.Entry{{said("x")}, {made(1, "a"), rev(1, 1, 0)}, {rev(1, 1, 1)}, {redacted(1, 1), rev(1, 2, 0)}, {dropped(1)}} {
		v := *b.v
		b.v = &v
		b.must(t, list...)
		same(t, b.v, b.l)
		c := b.copy()
		w := *c.v
		c.v = &w
		c.must(t, made(len(c.v.Catalog().All())+1, "b"))
		same(t, c.v, c.l)
		same(t, b.v, b.l)
	}
	same(t, new(Views), &log{})
	same(t, new(Views).Copy(), &log{})
	z := both{new(Views), &log{}}
	if e := z.do(t, rev(1, 1, 0)); e != api.ErrForm {
		t.Error(e)
	}
	z.must(t, made(1, "a"), rev(1, 1, 0))
	same(t, z.v, z.l)
}

// W9: views and their Copies are objects of their own, each used by another goroutine at the same time.
func TestAtTheSameTime(t *testing.T) {
	b := full(t)
	var list []both
	for range 8 {
		list = append(list, b.copy())
	}
	var work sync.WaitGroup
	for i, x := range list {
		work.Go(func() {
			r := rand.New(rand.NewSource(int64(i)))
			for range 12 {
				next := x.next(drawnBlock(r, x)...)
				x.v.Apply(next)
				x.l.apply(next)
				scribbleAnswers(x.v)
			}
			x.v.Apply(x.next(redacted(0, 2)))
			x.l.apply(x.next(redacted(0, 2)))
		})
	}
	work.Wait()
	for _, x := range list {
		same(t, x.v, x.l)
	}
}

// W1: a call ends, and does not panic, whatever a block has.
func TestAnyBlock(t *testing.T) {
	b := shelf(t)
	within := api.Value{Kind: api.List, Kids: make([]api.Value, 1)}
	within.Kids[0] = within
	r := rand.New(rand.NewSource(1))
	for range 5000 {
		var list []api.Entry
		for range r.Intn(4) {
			pick := func() int { return []int{-1, 0, 1, 2, 3, 5, 6, 64, 65, 1 << 31, -1 << 63, 1<<63 - 1}[r.Intn(12)] }
			e := api.Entry{Kind: r.Intn(10) - 1, Table: pick(), Doc: pick(), Version: pick(), At: api.Address{Block: pick(), Entry: pick()}, Gone: r.Intn(2) == 0}
			e.Text = []string{"", "a", "\xff\x00"}[r.Intn(3)]
			e.Data = []api.Value{{}, number(1), within, {Kind: 77}, nested("n")}[r.Intn(5)]
			list = append(list, e)
		}
		if r.Intn(2) == 0 {
			for i, e := range list {
				list[i] = []api.Entry{e, made(e.Table, e.Text), dropped(e.Table), deleted(e.Table, e.Doc, e.Version), redacted(e.At.Block, e.At.Entry)}[r.Intn(5)]
			}
		}
		c := b.copy()
		x := c.next(list...)
		x.Time = []int{0, 5, -1}[r.Intn(3)]
		c.apply(t, x)
	}
	same(t, b.v, b.l)
}

// follow does what a script of any bytes says, to several views and logs.
func follow(t *testing.T, script []byte) {
	list := []both{newBoth()}
	var entries []api.Entry
	for i := 0; len(script) > 3 && i < 200; i++ {
		op, x, y, z := script[0], int(script[1]), int(script[2]), int(script[3])
		script = script[4:]
		b := list[int(op>>4)%len(list)]
		tables := len(b.v.Catalog().All())
		switch op % 16 {
		case 0, 1:
			entries = append(entries, made(tables+1+x/200, fmt.Sprint(y%8)))
		case 2:
			entries = append(entries, dropped(x%8))
		case 3:
			entries = append(entries, indexed(x%8, fmt.Sprint(y%4)))
		case 4, 5, 6:
			entries = append(entries, rev(1+x%5, max(b.v.Next(1+x%5), 1)+y%3, 0))
		case 7, 8:
			entries = append(entries, rev(1+x%5, 1+y%6, z%5))
		case 9:
			entries = append(entries, hidden(1+x%5, 1+y%6, z%5))
		case 10:
			entries = append(entries, deleted(1+x%5, 1+y%6, z%5))
		case 11:
			entries = append(entries, redacted(x%(b.v.Blocks()+1), y%8))
		case 12:
			if len(list) < 4 {
				list = append(list, b.copy())
			}
		default:
			next := b.next(entries...)
			if x == 7 {
				next.Index += y - 128
			}
			b.apply(t, next)
			entries = nil
		}
	}
	for _, b := range list {
		same(t, b.v, b.l)
	}
}

// P0.7, W1: any bytes as a script.
func TestAnyScript(t *testing.T) {
	for seed := range 300 {
		r := rand.New(rand.NewSource(int64(seed)))
		script := make([]byte, r.Intn(800))
		r.Read(script)
		follow(t, script)
	}
}

func FuzzAnyBytes(f *testing.F) {
	f.Add([]byte("\x00\x00\x00\x00\x04\x00\x00\x00\x0d\x00\x00\x00\x07\x00\x00\x01\x0b\x00\x01\x00\x0d\x00\x00\x00"))
	f.Add([]byte("\x00\x00\x00\x00\x04\x00\x00\x00\x0d\x00\x00\x00\x0c\x00\x00\x00\x0a\x00\x00\x01\x1d\x00\x00\x00\x02\x01\x00\x00\x0d\x00\x00\x00"))
	f.Fuzz(follow)
}
