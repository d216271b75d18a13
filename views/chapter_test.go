package views

import (
	"math"
	"reflect"
	"slices"
	"testing"

	"scrivener/api"
	"scrivener/block"
	"scrivener/catalog"
	"scrivener/codec"
	"scrivener/value"
)

// The chapter written out a second time: nothing is kept but the blocks that were taken, and each answer goes through all of their
// entries from the first one on. Of the layers below it are chapters 11 and 14 that are asked.

type log struct{ taken []api.Block }

// A line is a Row, and whether a redaction named it.
type line struct {
	Row
	named bool
}

// A reading is what entries made that were gone through.
type reading struct {
	tables *catalog.Catalog
	lines  []line // as they came
	blocks int
}

func (l *log) read() *reading {
	r := &reading{tables: catalog.New()}
	for _, b := range l.taken {
		for i := range b.Entries {
			r.take(b, i)
		}
		r.blocks++
	}
	return r
}

// take goes through an entry that is not refused.
func (r *reading) take(b api.Block, i int) {
	e := b.Entries[i]
	r.tables.Apply(e)
	switch e.Kind {
	case api.EntryRevision:
		r.lines = append(r.lines, line{Row: Row{Table: e.Table, Doc: e.Doc, Version: e.Version, Data: e.Data, Gone: e.Gone, Block: b.Index, Entry: i, Time: b.Time}})
	case api.EntryDelete:
		r.lines = append(r.lines, line{Row: Row{Table: e.Table, Doc: e.Doc, Version: e.Version, Deleted: true, Block: b.Index, Entry: i, Time: b.Time}})
	case api.EntryRedact:
		x := r.at(e.At)
		x.Gone, x.named, x.Data = true, true, api.Value{}
	}
}

// at is the Revision at an Address; nil, if none is there.
func (r *reading) at(a api.Address) *line {
	for i, x := range r.lines {
		if x.Block == a.Block && x.Entry == a.Entry && !x.Deleted {
			return &r.lines[i]
		}
	}
	return nil
}

// of is all Rows of a document, as they came, which is by Versions.
func (r *reading) of(table, doc int) []Row {
	var out []Row
	for _, x := range r.lines {
		if x.Table == table && x.Doc == doc {
			out = append(out, x.Row)
		}
	}
	return out
}

// docs is how many documents a table ever had: each of them began once.
func (r *reading) docs(table int) int {
	n := 0
	for _, x := range r.lines {
		if x.Table == table && x.Version == 0 {
			n++
		}
	}
	return n
}

func (r *reading) live(table int) bool {
	x, e := r.tables.Table(table)
	return e == api.OK && !x.Dropped
}

// refuses is P15.1's error of an entry, that of the catalog first.
func (r *reading) refuses(e api.Entry) api.Errno {
	if err := r.tables.Copy().Apply(e); err != api.OK {
		return err
	}
	old := r.of(e.Table, e.Doc)
	wrong := false
	switch {
	case e.Kind == api.EntryRevision && e.Version == 0:
		wrong = !r.live(e.Table) || e.Doc != r.docs(e.Table)+1
	case e.Kind == api.EntryRevision || e.Kind == api.EntryDelete:
		wrong = !r.live(e.Table) || len(old) == 0 || old[len(old)-1].Deleted || e.Version != len(old)
	case e.Kind == api.EntryRedact:
		x := r.at(e.At)
		wrong = x == nil || x.named
	}
	if wrong {
		return api.ErrForm
	}
	return api.OK
}

func (l *log) apply(b api.Block) api.Errno {
	if b.Index != len(l.taken) {
		return api.ErrForm
	}
	if e := block.Check(b); e != api.OK {
		return e
	}
	r := l.read()
	for i, e := range b.Entries {
		if err := r.refuses(e); err != api.OK {
			return err
		}
		r.take(b, i)
	}
	l.taken = append(l.taken, cloned(b))
	return api.OK
}

// cloned is a block in other memory.
func cloned(b api.Block) api.Block {
	p, e := block.Encode(b, true)
	if e != api.OK {
		panic(e)
	}
	out, e := block.Decode(p)
	if e != api.OK {
		panic(e)
	}
	return out
}

func (r *reading) doc(table, doc int) (Row, bool) {
	old := r.of(table, doc)
	if !r.live(table) || len(old) == 0 || old[len(old)-1].Deleted || old[len(old)-1].Gone {
		return Row{}, false
	}
	return old[len(old)-1], true
}

func (r *reading) all(table int) []Row {
	var out []Row
	for doc := 1; doc <= r.docs(table); doc++ {
		if x, is := r.doc(table, doc); is {
			out = append(out, x)
		}
	}
	return out
}

func (r *reading) history(table int) []Row {
	var out []Row
	for doc := 1; doc <= r.docs(table); doc++ {
		out = append(out, r.of(table, doc)...)
	}
	return out
}

func (r *reading) next(table int) int {
	if _, e := r.tables.Table(table); e != api.OK {
		return 0
	}
	return r.docs(table) + 1
}

// sameData tells whether both are values, alike in all, or both are nothing.
func sameData(a, b api.Value) bool {
	nothing := api.Value{}
	return value.Same(a, b) || reflect.DeepEqual(a, nothing) && reflect.DeepEqual(b, nothing)
}

func sameRow(a, b Row) bool {
	data := sameData(a.Data, b.Data)
	a.Data, b.Data = api.Value{}, api.Value{}
	return data && reflect.DeepEqual(a, b)
}

func sameRows(a, b []Row) bool { return slices.EqualFunc(a, b, sameRow) }

// ids are numbers of tables that are, or could be, and of some that can't be.
func ids(most int) []int {
	out := []int{math.MinInt, math.MinInt + 1, -1 << 32, -65, -64, -2, -1, 63, 64, 65, 66, 127, 128, 1 << 16, 1 << 32, 1<<32 + 1, math.MaxInt - 1, math.MaxInt}
	for id := 0; id <= most+2; id++ {
		out = append(out, id)
	}
	return out
}

// same holds all that views answer against the log, and looks at what they keep.
func same(t *testing.T, v *Views, l *log) {
	t.Helper()
	r := l.read()
	if v.Blocks() != len(l.taken) {
		t.Fatalf("Blocks: %d, not %d", v.Blocks(), len(l.taken))
	}
	if got, want := v.Catalog().All(), r.tables.All(); !reflect.DeepEqual(got, want) {
		t.Fatalf("Catalog: %v, not %v", got, want)
	}
	for _, table := range ids(len(r.tables.All())) {
		if got, want := v.Docs(table), r.all(table); !sameRows(got, want) {
			t.Fatalf("Docs(%d): %v, not %v", table, got, want)
		}
		if got, want := v.History(table), r.history(table); !sameRows(got, want) {
			t.Fatalf("History(%d): %v, not %v", table, got, want)
		}
		if got, want := v.Next(table), r.next(table); got != want {
			t.Fatalf("Next(%d): %d, not %d", table, got, want)
		}
		for _, doc := range ids(r.docs(table)) {
			want, is := r.doc(table, doc)
			if got, has := v.Doc(table, doc); has != is || !sameRow(got, want) {
				t.Fatalf("Doc(%d, %d): %v %v, not %v %v", table, doc, got, has, want, is)
			}
		}
	}
	sound(t, v, r)
}

// sound looks at what is kept: no more than the answers need, and nothing of what is Gone.
func sound(t *testing.T, v *Views, r *reading) {
	t.Helper()
	docs := 0
	for table, n := range v.counts {
		if docs += n; n != r.docs(table) {
			t.Fatalf("table %d: %d documents, not %d", table, n, r.docs(table))
		}
	}
	if len(v.rows) != len(r.lines) || len(v.docs) != docs {
		t.Fatalf("%d rows of %d documents, not %d of %d", len(v.rows), len(v.docs), len(r.lines), docs)
	}
	for _, x := range r.lines {
		a := api.Address{Block: x.Block, Entry: x.Entry}
		if k := v.rows[a]; k == nil || k.named != x.named || !sameRow(k.Row, x.Row) {
			t.Fatalf("%v: %v is kept, not %v", a, k, x)
		}
	}
}

// both does one thing to views and to a log.
type both struct {
	v *Views
	l *log
}

func newBoth() both { return both{New(), &log{}} }

func (b both) copy() both { return both{b.v.Copy(), &log{slices.Clone(b.l.taken)}} }

func (b both) apply(t *testing.T, x api.Block) api.Errno {
	t.Helper()
	want := b.l.apply(x)
	if got := b.v.Apply(x); got != want {
		t.Fatalf("Apply(Index %d, %d entries): %v, not %v", x.Index, len(x.Entries), got, want)
	}
	return want
}

// next is the block of some entries that comes next.
func (b both) next(list ...api.Entry) api.Block {
	n := len(b.l.taken)
	return api.Block{Index: n, Time: 100 + 7*n, Txn: 3 * n, Prev: api.Hash{byte(n)}, Entries: list}
}

// do applies the block of some entries that comes next.
func (b both) do(t *testing.T, list ...api.Entry) api.Errno {
	t.Helper()
	return b.apply(t, b.next(list...))
}

// must is do of what is taken.
func (b both) must(t *testing.T, list ...api.Entry) {
	t.Helper()
	if e := b.do(t, list...); e != api.OK {
		t.Fatalf("%v: %v", list, e)
	}
}

func said(text string) api.Entry { return api.Entry{Kind: api.EntryStatement, Text: text} }

func made(id int, name string) api.Entry {
	return api.Entry{Kind: api.EntryTable, Table: id, Text: name}
}

func dropped(id int) api.Entry { return api.Entry{Kind: api.EntryDrop, Table: id} }

func indexed(id int, field string) api.Entry {
	return api.Entry{Kind: api.EntryIndex, Table: id, Text: field}
}

// revised is a Revision of some data.
func revised(table, doc, version int, data api.Value) api.Entry {
	h, e := codec.Hash(data)
	if e != api.OK {
		panic(e)
	}
	return api.Entry{Kind: api.EntryRevision, Table: table, Doc: doc, Version: version, Data: data, DataHash: h}
}

// rev is a Revision whose data tell what it is of.
func rev(table, doc, version int) api.Entry {
	return revised(table, doc, version, told(table, doc, version))
}

// hidden is a Revision that is Gone.
func hidden(table, doc, version int) api.Entry {
	e := rev(table, doc, version)
	e.Data, e.Gone = api.Value{}, true
	return e
}

func deleted(table, doc, version int) api.Entry {
	return api.Entry{Kind: api.EntryDelete, Table: table, Doc: doc, Version: version}
}

func redacted(block, entry int) api.Entry {
	return api.Entry{Kind: api.EntryRedact, At: api.Address{Block: block, Entry: entry}}
}

func number(n int) api.Value { return api.Value{Kind: api.Int, Int: n} }

func told(table, doc, version int) api.Value {
	return api.Value{Kind: api.List, Kids: []api.Value{number(table), number(doc), number(version)}}
}

// nested is a Struct of values of all Kinds, with a text in it.
func nested(text string) api.Value {
	list := api.Value{Kind: api.List, Kids: []api.Value{{Kind: api.Text, Text: text + "1"}, {Kind: api.Null}, {Kind: api.List}, {Kind: api.Bool, Int: 1}}}
	inner := api.Value{Kind: api.Struct, Names: []string{"p", "q"}, Kids: []api.Value{{Kind: api.Blob, Text: text + "\x00"}, list}}
	return api.Value{Kind: api.Struct, Names: []string{"a", "b", "c", "d", "e"}, Kids: []api.Value{inner, {Kind: api.Decimal, Int: 25, Scale: 1}, {Kind: api.Time, Int: 77}, {Kind: api.Text, Text: text}, {Kind: api.Struct}}}
}
