package block

import (
	"bytes"
	"fmt"
	"math"
	"math/rand"
	"slices"
	"strings"
	"testing"

	"scrivener/api"
	"scrivener/codec"
	"scrivener/digest"
	"scrivener/value"
)

func num(n int) api.Value           { return api.Value{Kind: api.Int, Int: n} }
func text(s string) api.Value       { return api.Value{Kind: api.Text, Text: s} }
func null() api.Value               { return api.Value{Kind: api.Null} }
func list(l ...api.Value) api.Value { return api.Value{Kind: api.List, Kids: l} }

// record is a struct with these names, parted by blanks.
func record(names string, kids ...api.Value) api.Value {
	return api.Value{Kind: api.Struct, Names: strings.Fields(names), Kids: kids}
}

func letters(n int) string { return strings.Repeat("x", n) }

// sized is a value that takes just n bytes, for great n.
func sized(n int) api.Value {
	full := text(letters(1 << 14))
	v := list(full, full, text(letters(1<<13)), text(""))
	if n > 60000 {
		v.Kids = append([]api.Value{full}, v.Kids...)
	}
	b, _ := codec.Encode(v)
	v.Kids[len(v.Kids)-1] = text(letters(n - len(b) - 1))
	return v
}

// hashOf is a value's digest, nought of what is none.
func hashOf(v api.Value) api.Hash {
	b, e := codec.Encode(v)
	if e != api.OK {
		return api.Hash{}
	}
	return chapterLeaf(b)
}

func statement(s string) api.Entry { return api.Entry{Kind: api.EntryStatement, Text: s} }

func revision(table, doc, version int, v api.Value) api.Entry {
	return api.Entry{Kind: api.EntryRevision, Table: table, Doc: doc, Version: version, Data: v, DataHash: hashOf(v)}
}

func gone(table, doc, version int, h api.Hash) api.Entry {
	return api.Entry{Kind: api.EntryRevision, Table: table, Doc: doc, Version: version, DataHash: h, Gone: true}
}

func deletion(table, doc, version int) api.Entry {
	return api.Entry{Kind: api.EntryDelete, Table: table, Doc: doc, Version: version}
}

func redaction(block, entry int) api.Entry {
	return api.Entry{Kind: api.EntryRedact, At: api.Address{Block: block, Entry: entry}}
}

func table(n int, name string) api.Entry {
	return api.Entry{Kind: api.EntryTable, Table: n, Text: name}
}

func drop(n int) api.Entry { return api.Entry{Kind: api.EntryDrop, Table: n} }

func indexed(n int, field string) api.Entry {
	return api.Entry{Kind: api.EntryIndex, Table: n, Text: field}
}

// of is a block with these entries.
func of(entries ...api.Entry) api.Block {
	return api.Block{Index: 4, Time: 300, Txn: 9, Prev: api.Hash{1, 31: 2}, Entries: entries}
}

// document is a nested value.
func document() api.Value {
	return record("list name times", list(num(1), null(), record("x", text("in"))), text("a document"), list(api.Value{Kind: api.Time, Int: 5}, api.Value{Kind: api.Decimal, Int: 25, Scale: 1}))
}

// kinds is an entry of each kind, a Revision that is Gone among them.
func kinds() []api.Entry {
	return []api.Entry{
		statement("hi"), revision(1, 2, 3, record("a", num(7))), gone(1, 2, 4, api.Hash{9, 31: 8}), deletion(1, 1, 1),
		redaction(1, 200), table(2, "t"), drop(2), indexed(1, "f"),
	}
}

// edges are entries at the edges, all of which are taken.
func edges() []api.Entry {
	return []api.Entry{
		statement("x"), statement(letters(127)), statement(letters(128)), statement(letters(api.MaxText)), statement("\x00\xff'\n"),
		revision(1, 1, 0, null()), revision(64, 65536, 1<<31, document()), revision(64, 1, 1, list()), revision(1, 65536, 1<<31-1, text("")), revision(3, 128, 128, record("")), revision(1, 1, 0, sized(api.MaxBytes)),
		gone(1, 1, 0, api.Hash{}), gone(64, 65536, 1<<31, hashOf(document())), gone(1, 1, 0, api.Hash(rep(0xff, 32))),
		deletion(1, 1, 1), deletion(64, 65536, 1<<31),
		redaction(0, 0), redaction(1<<31, 0), redaction(0, 1<<31), redaction(1<<31, 1<<31), redaction(127, 128),
		table(1, "x"), table(64, letters(40)), table(1, "\x00"), drop(1), drop(64), indexed(1, "x"), indexed(64, letters(40)), indexed(2, "\xff"),
	}
}

// ordinary are blocks of all kinds.
func ordinary() []api.Block {
	several := of(statement("a"), statement("b"), revision(1, 1, 0, num(1)), revision(1, 1, 1, num(1)), gone(1, 2, 0, hashOf(num(1))), revision(1, 3, 0, document()), gone(1, 4, 0, api.Hash{}), revision(2, 1, 0, document()), deletion(1, 1, 2), deletion(1, 3, 1), drop(1), drop(1), statement("a"))
	out := []api.Block{of(kinds()...), several, of(slices.Repeat(kinds(), 25)...), {Entries: kinds()}, {Index: 1 << 31, Time: 1 << 53, Txn: 1 << 53, Prev: api.Hash(rep(0xff, 32)), Entries: kinds()}}
	for _, e := range append(kinds(), edges()...) {
		out = append(out, of(e), of(e, e), of(statement("ahead"), e, drop(3)))
	}
	for n := 1; n <= api.MaxEnts; n += 1 + n/20 {
		b := api.Block{Index: n, Time: n * n, Txn: 1 << n % 50}
		for i := range n {
			b.Entries = append(b.Entries, revision(1+i%64, 1+i, i, num(i)), statement(fmt.Sprint(i)))
		}
		b.Entries = b.Entries[:n]
		out = append(out, b)
	}
	return append(out, of(slices.Repeat([]api.Entry{statement("s")}, api.MaxEnts)...))
}

// fault is a name of what is wrong, an entry in which it is, and Check's error.
type fault struct {
	name string
	e    api.Entry
	err  api.Errno
}

// strangers are entries with something in a field that their Kind does not name.
func strangers() []fault {
	turns := []struct {
		name string
		turn func(e *api.Entry)
		in   []int
	}{
		{"Text", func(e *api.Entry) { e.Text = "x" }, []int{2, 3, 4, 6}},
		{"Table", func(e *api.Entry) { e.Table = 1 }, []int{1, 4}},
		{"Table below 0", func(e *api.Entry) { e.Table = -1 }, []int{1, 4}},
		{"Doc", func(e *api.Entry) { e.Doc = 1 }, []int{1, 4, 5, 6, 7}},
		{"Doc below 0", func(e *api.Entry) { e.Doc = -1 }, []int{1, 4, 5, 6, 7}},
		{"Version", func(e *api.Entry) { e.Version = 1 }, []int{1, 4, 5, 6, 7}},
		{"Version below 0", func(e *api.Entry) { e.Version = math.MinInt }, []int{1, 4, 5, 6, 7}},
		{"At.Block", func(e *api.Entry) { e.At.Block = 1 }, []int{1, 2, 3, 5, 6, 7}},
		{"At.Block below 0", func(e *api.Entry) { e.At.Block = -1 }, []int{1, 2, 3, 5, 6, 7}},
		{"At.Entry", func(e *api.Entry) { e.At.Entry = 1 }, []int{1, 2, 3, 5, 6, 7}},
		{"At.Entry below 0", func(e *api.Entry) { e.At.Entry = -1 }, []int{1, 2, 3, 5, 6, 7}},
		{"Gone", func(e *api.Entry) { e.Gone = true }, []int{1, 2, 3, 4, 5, 6, 7}},
		{"Data", func(e *api.Entry) { e.Data = num(1) }, []int{1, 3, 4, 5, 6, 7}},
		{"Data and DataHash", func(e *api.Entry) { e.Data, e.DataHash = num(1), hashOf(num(1)) }, []int{1, 3, 4, 5, 6, 7}},
		{"Gone and DataHash", func(e *api.Entry) { e.Gone, e.DataHash = true, hashOf(num(1)) }, []int{1, 3, 4, 5, 6, 7}},
		{"Data's Kind", func(e *api.Entry) { e.Data.Kind = -1 }, []int{1, 3, 4, 5, 6, 7}},
		{"Data's Int", func(e *api.Entry) { e.Data.Int = 1 }, []int{1, 3, 4, 5, 6, 7}},
		{"Data's Scale", func(e *api.Entry) { e.Data.Scale = 1 }, []int{1, 3, 4, 5, 6, 7}},
		{"Data's Text", func(e *api.Entry) { e.Data.Text = "x" }, []int{1, 3, 4, 5, 6, 7}},
		{"Data's Names", func(e *api.Entry) { e.Data.Names = []string{""} }, []int{1, 3, 4, 5, 6, 7}},
		{"Data's Kids", func(e *api.Entry) { e.Data.Kids = []api.Value{{}} }, []int{1, 3, 4, 5, 6, 7}},
		{"DataHash", func(e *api.Entry) { e.DataHash[0] = 1 }, []int{1, 3, 4, 5, 6, 7}},
		{"DataHash's end", func(e *api.Entry) { e.DataHash[31] = 0x80 }, []int{1, 3, 4, 5, 6, 7}},
	}
	var out []fault
	for _, turn := range turns {
		for _, e := range kinds() {
			if slices.Contains(turn.in, e.Kind) && !(e.Gone && turn.name == "Gone") {
				turn.turn(&e)
				out = append(out, fault{fmt.Sprint(turn.name, " of kind ", e.Kind), e, api.ErrForm})
			}
		}
	}
	return out
}

// numbered are entries with a number or a text beyond its edge.
func numbered() []fault {
	var out []fault
	add := func(name string, e api.Entry) { out = append(out, fault{name, e, api.ErrForm}) }
	for _, n := range []int{0, 65, -1, 256 + 1, 1 << 32, math.MaxInt, math.MinInt} {
		add("Table of a Revision", revision(n, 1, 0, num(1)))
		add("Table of one that is Gone", gone(n, 1, 0, api.Hash{}))
		add("Table of a Delete", deletion(n, 1, 1))
		add("Table", table(n, "t"))
		add("Table of a Drop", drop(n))
		add("Table of an Index", indexed(n, "f"))
	}
	for _, n := range []int{0, 65537, -1, 1<<32 + 1, math.MaxInt, math.MinInt} {
		add("Doc of a Revision", revision(1, n, 0, num(1)))
		add("Doc of one that is Gone", gone(1, n, 0, api.Hash{}))
		add("Doc of a Delete", deletion(1, n, 1))
	}
	for _, n := range []int{-1, 1<<31 + 1, 1<<32 + 1, math.MaxInt, math.MinInt} {
		add("Version of a Revision", revision(1, 1, n, num(1)))
		add("Version of one that is Gone", gone(1, 1, n, api.Hash{}))
		add("Version of a Delete", deletion(1, 1, n))
		add("Block", redaction(n, 0))
		add("Entry", redaction(0, n))
	}
	add("Version 0 of a Delete", deletion(1, 1, 0))
	add("no Text", statement(""))
	add("a Text too long", statement(letters(api.MaxText+1)))
	add("a Text far too long", statement(letters(1<<16)))
	for _, s := range []string{"", letters(41), letters(api.MaxText)} {
		add("a Table's name", table(1, s))
		add("a field's name", indexed(1, s))
	}
	for _, kind := range []int{0, 8, 9, -1, 256 + 1, 256 + 2, math.MaxInt, math.MinInt} {
		add("Kind", api.Entry{Kind: kind})
		for _, e := range kinds() {
			e.Kind = kind
			add("Kind", e)
		}
	}
	// What is of one Kind is none of another, but for the two with a Table and a name.
	for _, e := range kinds() {
		for kind := 1; kind <= 7; kind++ {
			if kind != e.Kind && kind+e.Kind != api.EntryTable+api.EntryIndex {
				other := e
				other.Kind = kind
				add("another Kind", other)
			}
		}
	}
	return out
}

// refusedData are Data that are no value, with chapter 7's error.
func refusedData() []struct {
	v api.Value
	e api.Errno
} {
	deep := null()
	for range api.MaxDeep {
		deep = list(deep)
	}
	full := text(letters(1 << 14))
	loop := make([]api.Value, 1)
	loop[0] = list(loop...)
	loop[0].Kids = loop
	return []struct {
		v api.Value
		e api.Errno
	}{
		{api.Value{}, api.ErrForm}, {api.Value{Kind: 10}, api.ErrForm}, {api.Value{Kind: api.Decimal, Int: 20, Scale: 1}, api.ErrForm}, {record("b a", null(), null()), api.ErrForm}, {list(api.Value{}), api.ErrForm},
		{deep, api.ErrDeep}, {loop[0], api.ErrDeep}, {text(letters(1<<14 + 1)), api.ErrLong}, {list(slices.Repeat([]api.Value{null()}, 201)...), api.ErrLong}, {sized(api.MaxBytes + 1), api.ErrLong}, {list(full, full, full, full), api.ErrLong},
	}
}

// dated are Revisions whose Data or DataHash are none.
func dated() []fault {
	var out []fault
	for _, d := range refusedData() {
		e := revision(1, 1, 0, d.v)
		out = append(out, fault{"Data", e, d.e})
		// Data's error is ahead of that of their digest.
		e.DataHash = api.Hash{1}
		out = append(out, fault{"Data and DataHash", e, d.e})
	}
	for _, v := range []api.Value{null(), document(), sized(api.MaxBytes)} {
		for i := range (api.Hash{}) {
			e := revision(1, 1, 0, v)
			e.DataHash[i] ^= 1 << (i % 8)
			out = append(out, fault{"DataHash", e, api.ErrDigest})
		}
		for _, h := range []api.Hash{{}, hashOf(num(1)), chapterSum([]byte{1}), chapterSum([]byte{0}, []byte{1, 0})} {
			e := revision(1, 1, 0, v)
			e.DataHash = h
			out = append(out, fault{"another DataHash", e, api.ErrDigest})
		}
	}
	return out
}

// faults are entries of all kinds that Check refuses.
func faults() []fault { return slices.Concat(strangers(), numbered(), dated(), twofold()) }

// twofold are entries with two errors at once: the first one is told.
func twofold() []fault {
	var out []fault
	for _, d := range refusedData() {
		for _, turn := range []func(e *api.Entry){
			func(e *api.Entry) { e.Table = 65 }, func(e *api.Entry) { e.Doc = 0 }, func(e *api.Entry) { e.Version = -1 }, func(e *api.Entry) { e.Text = "x" },
			func(e *api.Entry) { e.At.Entry = 1 }, func(e *api.Entry) { e.Kind = 8 }, func(e *api.Entry) { e.Kind = api.EntryDelete }, func(e *api.Entry) { e.Kind = api.EntryDrop },
		} {
			e := revision(1, 1, 1, d.v)
			e.DataHash = api.Hash{5}
			turn(&e)
			out = append(out, fault{"a field and Data", e, api.ErrForm})
		}
		// One that is Gone has no Data, not even what is no value.
		if !alike(d.v, api.Value{}) {
			e := gone(1, 1, 1, api.Hash{})
			e.Data = d.v
			out = append(out, fault{"Gone with Data", e, api.ErrForm})
		}
	}
	e := revision(1, 1, 1, num(1))
	e.DataHash, e.Doc = api.Hash{}, 0
	return append(out, fault{"a field and DataHash", e, api.ErrForm})
}

// P11.1: Check

func TestCheckOrdinary(t *testing.T) {
	for _, b := range ordinary() {
		if e := Check(b); e != api.OK {
			t.Errorf("Check(%s) = %v", short(b), e)
		}
		blockAsTheChapter(t, b)
	}
}

// numbersOfABlock are blocks with numbers on both sides of their edges.
func numbersOfABlock() []struct {
	b api.Block
	e api.Errno
} {
	type row = struct {
		b api.Block
		e api.Errno
	}
	var out []row
	add := func(e api.Errno, turn func(b *api.Block)) {
		b := of(drop(1))
		turn(&b)
		out = append(out, row{b, e})
	}
	for _, n := range []int{0, 1, 127, 128, 1<<31 - 1, 1 << 31} {
		add(api.OK, func(b *api.Block) { b.Index = n })
	}
	for _, n := range []int{-1, 1<<31 + 1, 1 << 32, 1 << 53, math.MaxInt, math.MinInt} {
		add(api.ErrArg, func(b *api.Block) { b.Index = n })
	}
	for _, n := range []int{0, 1, 127, 128, 1<<31 + 1, 1<<53 - 1, 1 << 53} {
		add(api.OK, func(b *api.Block) { b.Time = n })
		add(api.OK, func(b *api.Block) { b.Txn = n })
	}
	for _, n := range []int{-1, 1<<53 + 1, 1 << 54, math.MaxInt, math.MinInt} {
		add(api.ErrArg, func(b *api.Block) { b.Time = n })
		add(api.ErrArg, func(b *api.Block) { b.Txn = n })
	}
	for _, n := range []int{1, 2, 199, 200} {
		add(api.OK, func(b *api.Block) { b.Entries = slices.Repeat([]api.Entry{drop(1)}, n) })
	}
	for _, n := range []int{0, 201, 202, 256, 257, 1000} {
		add(api.ErrArg, func(b *api.Block) { b.Entries = slices.Repeat([]api.Entry{drop(1)}, n) })
	}
	add(api.ErrArg, func(b *api.Block) { b.Entries = nil })
	return out
}

func TestCheckNumbersOfABlock(t *testing.T) {
	for _, x := range numbersOfABlock() {
		checks(t, x.b, x.e)
	}
	checks(t, api.Block{}, api.ErrArg)
	checks(t, api.Block{Entries: []api.Entry{}}, api.ErrArg)
}

func TestCheckEachEdgeOfAnEntry(t *testing.T) {
	for _, e := range append(kinds(), edges()...) {
		checks(t, of(e), api.OK)
		entryAsTheChapter(t, e)
		if h, f := EntryHash(e); f != api.OK || h == (api.Hash{}) {
			t.Errorf("EntryHash(%s) = %x, %v", shortEntry(e), h, f)
		}
	}
}

func TestCheckRefusesAnEntry(t *testing.T) {
	for _, f := range faults() {
		if g := chapterEntryCheck(f.e); g != f.err {
			t.Fatalf("%s: the chapter says %v, not %v", f.name, g, f.err)
		}
		checks(t, of(f.e), f.err)
		entryHashes(t, f.e, api.Hash{}, f.err)
	}
}

// An entry that is none is told wherever it stands, the first one of two.
func TestCheckTellsTheFirst(t *testing.T) {
	some := []fault{{"", deletion(0, 1, 1), api.ErrForm}, {"", revision(1, 1, 0, text(letters(1<<14+1))), api.ErrLong}, {"", revision(1, 1, 0, refusedData()[5].v), api.ErrDeep}, {"", dated()[len(dated())-1].e, api.ErrDigest}}
	for _, f := range some {
		for _, g := range some {
			checks(t, of(f.e, g.e), f.err)
			checks(t, of(statement("a"), f.e, drop(1), g.e, drop(1)), f.err)
		}
		for at := range 200 {
			entries := slices.Repeat([]api.Entry{drop(1)}, 200)
			entries[at] = f.e
			if e := Check(of(entries...)); e != f.err {
				t.Errorf("Check of the fault at %d = %v, want %v", at, e, f.err)
			}
		}
	}
}

// The numbers of the block are ahead of its entries.
func TestCheckTellsTheBlockFirst(t *testing.T) {
	for _, x := range numbersOfABlock() {
		for _, f := range []api.Entry{deletion(0, 1, 1), revision(1, 1, 0, text(letters(1<<14+1))), dated()[len(dated())-1].e} {
			if x.e != api.OK && len(x.b.Entries) > 0 {
				x.b.Entries = slices.Clone(x.b.Entries)
				x.b.Entries[0] = f
				checks(t, x.b, api.ErrArg)
			}
		}
	}
	// So they are ahead of too many bytes.
	b := filled(api.MaxBlock+1, true)
	b.Time = -1
	checks(t, b, api.ErrArg)
}

// filled is a block that takes just n bytes with its data. A great part of it is Data, or none.
func filled(n int, data bool) api.Block {
	b := of(statement("first"), revision(1, 1, 0, num(1)), gone(1, 2, 0, api.Hash{}))
	if data {
		b.Entries = append(b.Entries, revision(1, 2, 1, sized(api.MaxBytes)), revision(1, 2, 2, sized(api.MaxBytes)), revision(1, 2, 3, sized(50000)))
	}
	for n-len(chapterBytes(b, true)) > 8100 {
		b.Entries = append(b.Entries, statement(letters(api.MaxText)))
	}
	rest := n - len(chapterBytes(b, true)) - 16
	b.Entries = append(b.Entries, statement(letters(rest/2)), statement(letters(rest-rest/2)))
	return b
}

func TestCheckMaxBlock(t *testing.T) {
	for _, data := range []bool{true, false} {
		for _, n := range []int{api.MaxBlock - 1, api.MaxBlock, api.MaxBlock + 1, api.MaxBlock + 2, api.MaxBlock + 5000} {
			b := filled(n, data)
			if got := len(chapterBytes(b, true)); got != n {
				t.Fatalf("%d bytes, not %d", got, n)
			}
			want := api.OK
			if n > api.MaxBlock {
				want = api.ErrLong
			}
			checks(t, b, want)
			decodes(t, chapterBytes(b, true), map[bool]api.Block{true: b}[want == api.OK], want)
		}
	}
}

// Blocks whose last byte is of an entry, of a Data's byte or of Data.
func TestCheckMaxBlockByItsEnd(t *testing.T) {
	for _, last := range append(kinds(), revision(1, 1, 0, text(letters(500))), gone(1, 1, 0, api.Hash{})) {
		for _, more := range []int{0, 1} {
			b := filled(api.MaxBlock-1000, true)
			b.Entries = append(b.Entries, statement(""), last)
			rest := api.MaxBlock + more - len(chapterBytes(b, true)) - 1
			b.Entries[len(b.Entries)-2] = statement(letters(rest))
			if got := len(chapterBytes(b, true)); got != api.MaxBlock+more {
				t.Fatalf("%d bytes", got)
			}
			checks(t, b, []api.Errno{api.OK, api.ErrLong}[more])
		}
	}
}

// Too many bytes are told behind all else, wherever that stands.
func TestCheckTooLongIsLast(t *testing.T) {
	b := filled(api.MaxBlock+1, true)
	for _, f := range []fault{{"", deletion(0, 1, 1), api.ErrForm}, {"", revision(1, 1, 0, refusedData()[5].v), api.ErrDeep}, {"", dated()[len(dated())-1].e, api.ErrDigest}} {
		for at := range len(b.Entries) + 1 {
			long := b
			long.Entries = slices.Insert(slices.Clone(b.Entries), at, f.e)
			if e := Check(long); e != f.err {
				t.Errorf("Check of a fault at %d of too many bytes = %v, want %v", at, e, f.err)
			}
		}
	}
}

// How many bytes there are is reckoned with data, also where none is asked for; what is Gone has none.
func TestTooLongWithDataAlone(t *testing.T) {
	b := of(slices.Repeat([]api.Entry{revision(1, 1, 1, sized(api.MaxBytes))}, 5)...)
	encodes(t, b, false, nil, api.ErrLong)
	checks(t, b, api.ErrLong)
	b = of(slices.Repeat([]api.Entry{revision(1, 1, 1, sized(api.MaxBytes))}, 200)...)
	if e := Check(b); e != api.ErrLong {
		t.Errorf("Check of far too many bytes = %v", e)
	}
	for i := range b.Entries[3:] {
		b.Entries[3+i] = gone(1, 1, 1, b.Entries[3+i].DataHash)
	}
	checks(t, b, api.OK)
}

// Lists without an element are nothing, be they nil or not.
func TestEmptyListsAreNothing(t *testing.T) {
	b := of(kinds()...)
	for i := range b.Entries {
		if b.Entries[i].Kind != api.EntryRevision || b.Entries[i].Gone {
			b.Entries[i].Data = api.Value{Names: []string{}, Kids: []api.Value{}}
		}
	}
	blockAsTheChapter(t, b)
	checks(t, b, api.OK)
	decodes(t, chapterBytes(b, true), of(kinds()...), api.OK)
}

// P11.2: digests

// theBlock is a block of three entries; the digests of it and of its parts are reckoned elsewhere.
func theBlock() api.Block {
	return api.Block{Index: 4, Time: 300, Txn: 9, Prev: api.Hash{1}, Entries: []api.Entry{statement("hi"), revision(1, 2, 3, record("a", num(7))), deletion(1, 1, 1)}}
}

func TestDigestsKnown(t *testing.T) {
	b := theBlock()
	own, e := EntryHash(b.Entries[1])
	all, f := Hash(b)
	if e != api.OK || f != api.OK {
		t.Fatal(e, f)
	}
	for _, x := range []struct {
		name string
		h    api.Hash
		want string
	}{
		{"DataHash", b.Entries[1].DataHash, "aa9884eda15da7fc1c72d114c5784eb63db04c634c14dfde455c502a4cff5e85"},
		{"EntryHash", own, "23ae6cf71da037b89e90bd3376d4a507ebe4972ed114ab4139483ea08054bb20"},
		{"Head", Head(b), "81b256be8c00370454a0bbe074c78e9b7991cb80c0662eb1c2185c9aa3f676da"},
		{"Hash", all, "8dae415b2d116e541d8ebdaeb88ed727df78d14803a6ee62d220274c71e6c54b"},
	} {
		if got := digest.Hex(x.h); got != x.want {
			t.Errorf("%s = %s, want %s", x.name, got, x.want)
		}
	}
}

func TestEntryHashKnown(t *testing.T) {
	r := revision(1, 2, 300, document())
	for _, x := range []struct {
		e api.Entry
		b []byte
	}{
		{statement("hi"), []byte{1, 0, 0, 0, 2, 'h', 'i', 0, 0}},
		{r, cat([]byte{2, 1, 2, 0xac, 2, 0, 0, 0}, r.DataHash[:])},
		{gone(64, 128, 0, api.Hash{7}), cat([]byte{2, 64, 0x80, 1, 0, 0, 0, 0, 7}, rep(0, 31))},
		{deletion(3, 4, 5), []byte{3, 3, 4, 5, 0, 0, 0}},
		{redaction(1, 200), []byte{4, 0, 0, 0, 0, 1, 0xc8, 1}},
		{table(2, "t"), []byte{5, 2, 0, 0, 1, 't', 0, 0}},
		{drop(3), []byte{6, 3, 0, 0, 0, 0, 0}},
		{indexed(1, "field"), []byte{7, 1, 0, 0, 5, 'f', 'i', 'e', 'l', 'd', 0, 0}},
		{redaction(1<<31, 1<<31), []byte{4, 0, 0, 0, 0, 0x80, 0x80, 0x80, 0x80, 8, 0x80, 0x80, 0x80, 0x80, 8}},
		{statement(letters(4096)), cat([]byte{1, 0, 0, 0, 0x80, 32}, rep('x', 4096), []byte{0, 0})},
	} {
		entryHashes(t, x.e, digest.Leaf(x.b), api.OK)
		entryHashes(t, x.e, chapterLeaf(x.b), api.OK)
	}
}

func TestHead(t *testing.T) {
	prev := api.Hash(rep(0xab, 32))
	for _, x := range []struct {
		index, time, txn int
		want             []byte
	}{
		{0, 0, 0, []byte{0, 0, 0}},
		{4, 300, 9, []byte{4, 0xac, 2, 9}},
		{-1, 1, 2, []byte{0, 1, 2}},
		{1, -1, 2, []byte{1, 0, 2}},
		{1, 2, -1, []byte{1, 2, 0}},
		{math.MinInt, math.MinInt, math.MinInt, []byte{0, 0, 0}},
		{127, 128, 129, []byte{127, 0x80, 1, 0x81, 1}},
		{1 << 31, 1 << 53, 1<<53 + 1, cat(uv(1<<31), uv(1<<53), uv(1<<53+1))},
		{math.MaxInt, math.MaxInt, math.MaxInt, bytes.Repeat(uv(math.MaxInt64), 3)},
	} {
		// The entries are nothing to it, be they some or none.
		for _, entries := range [][]api.Entry{nil, kinds(), {{Kind: 99}}, make([]api.Entry, 300)} {
			b := api.Block{Index: x.index, Time: x.time, Txn: x.txn, Prev: prev, Entries: entries}
			if h := Head(b); h != chapterSum(x.want, prev[:]) || h != digest.Sum(cat(x.want, prev[:])) {
				t.Errorf("Head of %d, %d, %d = %x", x.index, x.time, x.txn, h)
			}
		}
	}
	if Head(api.Block{}) != chapterSum(rep(0, 35)) {
		t.Errorf("Head of nothing = %x", Head(api.Block{}))
	}
}

func TestHeadTellsPrev(t *testing.T) {
	seen := map[api.Hash]int{}
	for i := range (api.Hash{}) {
		b := of(drop(1))
		b.Prev[i] ^= 0x10
		seen[Head(b)]++
		checks(t, b, api.OK)
	}
	if len(seen) != 32 {
		t.Errorf("32 Prevs have %d Heads", len(seen))
	}
}

func TestJoin(t *testing.T) {
	a, b := digest.Sum([]byte("a")), digest.Sum([]byte("b"))
	for _, x := range [][2]api.Hash{{a, b}, {b, a}, {a, a}, {{}, {}}, {a, {}}, {{}, b}} {
		if h := Join(x[0], x[1]); h != digest.Node(x[0], x[1]) || h != chapterNode(x[0], x[1]) {
			t.Errorf("Join(%x, %x) = %x", x[0], x[1], h)
		}
	}
}

// A block's digest is put together by the calls of the chapters below.
func TestHashOfItsParts(t *testing.T) {
	for _, n := range []int{1, 2, 3, 4, 5, 7, 8, 9, 127, 128, 129, 199, 200} {
		b := api.Block{Index: n}
		var leaves []api.Hash
		for i := range n {
			b.Entries = append(b.Entries, statement(fmt.Sprint("entry ", i)))
			h, e := EntryHash(b.Entries[i])
			if e != api.OK {
				t.Fatal(e)
			}
			leaves = append(leaves, h)
		}
		entries := digest.Chain(chapterRoot(leaves), uv(uint64(n)))
		if h, e := Hash(b); h != Join(Head(b), entries) || h != chapterHash(b) || e != api.OK {
			t.Errorf("Hash of %d entries = %x, %v", n, h, e)
		}
	}
}

// Each field is told by the digests, and so is the order.
func TestDigestsOfUnlikeBlocks(t *testing.T) {
	seen := map[api.Hash]string{}
	for _, b := range ordinary() {
		h, e := Hash(b)
		p := string(chapterBytes(b, false))
		if other, has := seen[h]; e != api.OK || has && other != p {
			t.Errorf("Hash(%s): %v, also of another block", short(b), e)
		}
		seen[h] = p
	}
	a, _ := Hash(of(drop(1), drop(2)))
	b, _ := Hash(of(drop(2), drop(1)))
	if a == b {
		t.Error("the order of the entries is not told")
	}
}

// P11.3: Encode

func TestEncodeKnown(t *testing.T) {
	b := of(kinds()...)
	r := b.Entries[1]
	head := cat([]byte{4, 0xac, 2, 9}, b.Prev[:], []byte{8, 1, 0, 0, 0, 2, 'h', 'i', 0, 0, 2, 1, 2, 3, 0, 0, 0}, r.DataHash[:])
	tail := cat([]byte{2, 1, 2, 4, 0, 0, 0, 9}, rep(0, 30), []byte{8, 0, 3, 1, 1, 1, 0, 0, 0, 4, 0, 0, 0, 0, 1, 0xc8, 1, 5, 2, 0, 0, 1, 't', 0, 0, 6, 2, 0, 0, 0, 0, 0, 7, 1, 0, 0, 1, 'f', 0, 0})
	encodes(t, b, true, cat(head, []byte{1, 6, 9, 1, 1, 'a', 3, 14}, tail), api.OK)
	encodes(t, b, false, cat(head, []byte{0}, tail), api.OK)
	encodes(t, api.Block{Entries: []api.Entry{drop(1)}}, true, cat(rep(0, 35), []byte{1, 6, 1, 0, 0, 0, 0, 0}), api.OK)
	encodes(t, api.Block{Index: 1 << 31, Time: 1 << 53, Txn: 128, Entries: []api.Entry{drop(64)}}, false, cat([]byte{0x80, 0x80, 0x80, 0x80, 8, 0x80, 0x80, 0x80, 0x80, 0x80, 0x80, 0x80, 16, 0x80, 1}, rep(0, 32), []byte{1, 6, 64, 0, 0, 0, 0, 0}), api.OK)
	many := of(slices.Repeat([]api.Entry{drop(1)}, 200)...)
	encodes(t, many, true, cat([]byte{4, 0xac, 2, 9}, many.Prev[:], []byte{0xc8, 1}, bytes.Repeat([]byte{6, 1, 0, 0, 0, 0, 0}, 200)), api.OK)
}

// Of Data that take 127, 128 and most bytes.
func TestEncodeLengthsOfData(t *testing.T) {
	for _, n := range []int{125, 126, 1 << 14} {
		b := of(revision(1, 1, 0, text(letters(n))))
		d, _ := codec.Encode(b.Entries[0].Data)
		h := b.Entries[0].DataHash
		encodes(t, b, true, cat([]byte{4, 0xac, 2, 9}, b.Prev[:], []byte{1, 2, 1, 1, 0, 0, 0, 0}, h[:], []byte{1}, uv(uint64(len(d))), d), api.OK)
	}
}

func TestEncodeWithoutDataLeavesEachGone(t *testing.T) {
	for _, b := range ordinary() {
		p, e := Encode(b, false)
		got, f := Decode(p)
		if e != api.OK || f != api.OK || len(got.Entries) != len(b.Entries) {
			t.Fatalf("%s: %v, %v", short(b), e, f)
		}
		want := b
		want.Entries = slices.Clone(b.Entries)
		for i := range want.Entries {
			if want.Entries[i].Kind == api.EntryRevision {
				want.Entries[i].Gone, want.Entries[i].Data = true, api.Value{}
			}
		}
		if !sameBlock(got, want) {
			t.Errorf("Decode of Encode without data of %s = %s", short(b), short(got))
		}
		before, _ := Hash(b)
		if behind, g := Hash(got); before != behind || g != api.OK {
			t.Errorf("%s: without data its digest is another one", short(b))
		}
		// Of one without data both are the same.
		encodes(t, got, true, p, api.OK)
		encodes(t, got, false, p, api.OK)
	}
}

// P11.3: Decode

func TestDecodeOfEncodeIsTheBlock(t *testing.T) {
	for _, b := range ordinary() {
		p, e := Encode(b, true)
		got, f := Decode(p)
		if e != api.OK || f != api.OK || !sameBlock(got, b) {
			t.Errorf("Decode of Encode of %s = %s, %v, %v", short(b), short(got), e, f)
		}
		for i, x := range got.Entries {
			if x.Kind == api.EntryRevision && !x.Gone && !value.Same(x.Data, b.Entries[i].Data) {
				t.Errorf("%s: the entry %d has other Data", short(b), i)
			}
		}
	}
}

// cuts are the places at which so many bytes are cut: all of few, some of many.
func cuts(n int) []int {
	var out []int
	for i := range n {
		if n < 600 || i < 150 || i >= n-60 || i%997 == 0 {
			out = append(out, i)
		}
	}
	return out
}

func TestDecodeCutAtEachPlace(t *testing.T) {
	for _, b := range ordinary() {
		for _, data := range []bool{true, false} {
			p := chapterBytes(b, data)
			for _, n := range cuts(len(p)) {
				undecoded(t, p[:n], api.ErrShort)
			}
		}
	}
	undecoded(t, nil, api.ErrShort)
	undecoded(t, []byte{}, api.ErrShort)
}

// What Check would refuse is too short, too, where it is cut.
func TestDecodeCutOfWhatIsNone(t *testing.T) {
	for _, b := range unread() {
		p := chapterBytes(b.b, true)
		for _, n := range cuts(len(p)) {
			if n%7 == 0 || n > len(p)-9 {
				undecoded(t, p[:n], api.ErrShort)
			}
		}
	}
}

func TestDecodeSomethingBehind(t *testing.T) {
	tails := [][]byte{{0}, {1}, {2}, {0x80}, {0xff}, {6, 1, 0, 0, 0, 0, 0}, rep(0, 50), rep(0xff, 50), rep(1, api.MaxBlock)}
	for _, b := range ordinary() {
		for _, tail := range tails {
			undecoded(t, cat(chapterBytes(b, true), tail), api.ErrForm)
		}
	}
	// It is ahead of what Check refuses.
	for _, x := range unread() {
		undecoded(t, cat(chapterBytes(x.b, true), tails[0]), api.ErrForm)
	}
}

// unread are blocks of which the bytes can be read, but Check refuses them.
func unread() []struct {
	b api.Block
	e api.Errno
} {
	type row = struct {
		b api.Block
		e api.Errno
	}
	var out []row
	isRead := func(n int) bool { return within(n, 0, 1<<53) }
	for _, x := range numbersOfABlock() {
		if x.e != api.OK && isRead(x.b.Index) && isRead(x.b.Time) && isRead(x.b.Txn) {
			out = append(out, row{x.b, x.e})
		}
	}
	for _, f := range faults() {
		// Bytes have no room for these.
		hidden := f.e.Kind != api.EntryRevision && (f.e.Gone || !alike(f.e.Data, api.Value{}) || f.e.DataHash != api.Hash{})
		refused := f.e.Kind == api.EntryRevision && !f.e.Gone && hashOf(f.e.Data) == api.Hash{}
		strange := f.e.Gone && !alike(f.e.Data, api.Value{})
		numbers := within(f.e.Kind, 0, 255) && isRead(f.e.Table) && isRead(f.e.Doc) && isRead(f.e.Version) && isRead(f.e.At.Block) && isRead(f.e.At.Entry)
		if !hidden && !refused && !strange && numbers {
			out = append(out, row{of(f.e), f.err}, row{of(statement("a"), f.e, drop(1)), f.err})
		}
	}
	return out
}

func TestDecodeWhatCheckRefuses(t *testing.T) {
	rows := unread()
	if len(rows) < 200 {
		t.Fatalf("only %d blocks", len(rows))
	}
	met := map[api.Errno]int{}
	for _, x := range rows {
		undecoded(t, chapterBytes(x.b, true), x.e)
		met[x.e]++
	}
	for _, e := range []api.Errno{api.ErrArg, api.ErrForm, api.ErrDigest} {
		if met[e] == 0 {
			t.Errorf("none with %v", e)
		}
	}
}

// Of two entries that Check refuses the first one is told, and the block's numbers ahead of both.
func TestDecodeTellsTheFirstThatCheckRefuses(t *testing.T) {
	wrong := revision(1, 1, 0, num(1))
	wrong.DataHash = api.Hash{}
	undecoded(t, chapterBytes(of(drop(65), wrong), true), api.ErrForm)
	undecoded(t, chapterBytes(of(wrong, drop(65)), true), api.ErrDigest)
	undecoded(t, chapterBytes(of(drop(1), wrong, wrong), true), api.ErrDigest)
	b := of(wrong, drop(65))
	b.Index = 1<<31 + 1
	undecoded(t, chapterBytes(b, true), api.ErrArg)
	undecoded(t, chapterBytes(of(slices.Repeat([]api.Entry{wrong}, 201)...), true), api.ErrArg)
}

// place is where a Uvarint of a block's bytes stands.
type place struct {
	at, taken int
	length    bool // of bytes, or how many entries
}

// uvarints are where each Uvarint of a block's bytes with data stands.
func uvarints(b api.Block) []place {
	var out []place
	at := 0
	add := func(length bool, numbers ...int) {
		for _, n := range numbers {
			out = append(out, place{at, len(uvs(n)), length})
			at += len(uvs(n))
		}
	}
	add(false, b.Index, b.Time, b.Txn)
	at += 32
	add(true, len(b.Entries))
	for _, e := range b.Entries {
		at++
		add(false, e.Table, e.Doc, e.Version)
		add(true, len(e.Text))
		at += len(e.Text)
		add(false, e.At.Block, e.At.Entry)
		if e.Kind == api.EntryRevision {
			at += 33
		}
		if d, f := codec.Encode(e.Data); f == api.OK {
			add(true, len(d))
			at += len(d)
		}
	}
	return out
}

// wrongUvarints are bytes that are none, or of a number above 2^53.
func wrongUvarints() [][]byte {
	return [][]byte{
		{0x80, 0}, {0x81, 0}, {0xff, 0}, {0x80, 0x80, 0}, cat(rep(0xff, 9), []byte{0}), cat(rep(0x80, 9), []byte{2}), rep(0x80, 10), rep(0xff, 10), rep(0xff, 12),
		uv(1<<53 + 1), uv(1<<53 + 128), uv(1 << 54), uv(1<<63 - 1), uv(1 << 63), uv(1<<64 - 1), uv(1<<64 - 2),
	}
}

func TestDecodeWrongUvarints(t *testing.T) {
	for _, b := range []api.Block{of(kinds()...), theBlock(), of(revision(1, 1, 0, document()), revision(1, 1, 1, document())), of(gone(1, 1, 0, api.Hash{}), statement(letters(300)))} {
		p := chapterBytes(b, true)
		for _, u := range uvarints(b) {
			head, tail := p[:u.at], p[u.at+u.taken:]
			for _, wrong := range wrongUvarints() {
				undecoded(t, cat(head, wrong, tail), api.ErrForm)
				// It is ahead of all that stands behind.
				undecoded(t, cat(head, wrong), api.ErrForm)
				undecoded(t, cat(head, wrong, rep(0xff, 40)), api.ErrForm)
			}
			// Where it is cut it may still become one.
			for n := range 10 {
				undecoded(t, cat(head, rep(0x80, n)), api.ErrShort)
				undecoded(t, cat(head, rep(0xff, n)), api.ErrShort)
			}
		}
	}
}

// A number of 2^53 can be read: it is Check that tells of it, or that there is not so much.
func TestDecodeGreatestUvarints(t *testing.T) {
	b := of(kinds()...)
	p := chapterBytes(b, true)
	for i, u := range uvarints(b) {
		q := cat(p[:u.at], uv(1<<53), p[u.at+u.taken:])
		switch {
		case u.length:
			undecoded(t, q, api.ErrShort)
		case i == 0:
			undecoded(t, q, api.ErrArg)
		case i == 1 || i == 2:
			bytesAsTheChapter(t, q)
			if _, e := Decode(q); e != api.OK {
				t.Errorf("Decode with a Time or a Txn of 2^53: %v", e)
			}
		default:
			undecoded(t, q, api.ErrForm)
		}
	}
}

// A length that goes beyond the end, by one or by much.
func TestDecodeLengthsBeyondTheEnd(t *testing.T) {
	head := func(entry ...byte) []byte { return cat([]byte{4, 0xac, 2, 9}, rep(7, 32), []byte{1}, entry) }
	for _, n := range []uint64{1, 2, 4096, 4097, 1 << 16, 1 << 20, 1 << 31, 1<<32 + 1, 1<<53 - 1, 1 << 53} {
		undecoded(t, head(cat([]byte{1, 0, 0, 0}, uv(n))...), api.ErrShort)
		undecoded(t, head(cat([]byte{1, 0, 0, 0}, uv(n), rep('x', int(min(n, 9000))-1))...), api.ErrShort)
		undecoded(t, head(cat([]byte{5, 1, 0, 0}, uv(n))...), api.ErrShort)
		undecoded(t, head(cat([]byte{2, 1, 1, 0, 0, 0, 0}, rep(0, 32), []byte{1}, uv(n))...), api.ErrShort)
		undecoded(t, head(cat([]byte{2, 1, 1, 0, 0, 0, 0}, rep(0, 32), []byte{1}, uv(n), rep(1, int(min(n, 9000))-1))...), api.ErrShort)
		// Too many entries for what is left.
		undecoded(t, cat([]byte{4, 0xac, 2, 9}, rep(7, 32), uv(n)), api.ErrShort)
		undecoded(t, cat([]byte{4, 0xac, 2, 9}, rep(7, 32), uv(n), bytes.Repeat([]byte{6, 1, 0, 0, 0, 0, 0}, int(min(n, 3001))-1)), api.ErrShort)
	}
}

// revised is bytes of a block of one Revision of which these stand behind its own bytes.
func revised(h api.Hash, behind ...[]byte) []byte {
	return cat([]byte{4, 0xac, 2, 9}, rep(7, 32), []byte{1, 2, 1, 1, 0, 0, 0, 0}, h[:], cat(behind...))
}

func TestDecodeDataByte(t *testing.T) {
	b, e := Decode(revised(api.Hash{3}, []byte{0}))
	if e != api.OK || !sameEntry(b.Entries[0], gone(1, 1, 0, api.Hash{3})) {
		t.Errorf("Decode of one that is Gone = %s, %v", short(b), e)
	}
	b, e = Decode(revised(hashOf(num(7)), []byte{1, 2, 3, 14}))
	if e != api.OK || !sameEntry(b.Entries[0], revision(1, 1, 0, num(7))) {
		t.Errorf("Decode of one with data = %s, %v", short(b), e)
	}
	for x := 2; x < 256; x++ {
		undecoded(t, revised(hashOf(num(7)), []byte{byte(x), 2, 3, 14}), api.ErrForm)
		undecoded(t, revised(hashOf(num(7)), []byte{byte(x)}), api.ErrForm)
		undecoded(t, revised(hashOf(num(7)), []byte{byte(x)}, rep(0, 50)), api.ErrForm)
	}
}

func TestDecodeDataThatChapterSevenRefuses(t *testing.T) {
	full := cat([]byte{6}, uv(1<<14), rep('x', 1<<14))
	lists := cat(bytes.Repeat([]byte{8, 1}, 16), []byte{1})
	for _, d := range [][]byte{
		{}, {0}, {10}, {3}, {2, 2}, {2}, {3, 14, 0}, {1, 1}, {3, 0x80}, {3, 0x80, 0}, {6, 5, 'x'}, {4, 40, 1}, {9, 1, 0, 1}, {9, 2, 1, 'b', 1, 1, 'a', 1},
		lists, cat([]byte{6}, uv(1<<14+1), rep('x', 1<<14+1)), cat([]byte{8, 5}, full, full, full, full, full), cat([]byte{8}, uv(201), rep(1, 201)), cat([]byte{8, 4}, full, full, full, full),
	} {
		if _, e := codec.Decode(d); e == api.OK {
			t.Fatalf("chapter 7 takes %s", shortBytes(d))
		}
		// Whatever the error there, and whatever the digest and what follows, it is ErrForm here.
		for _, h := range []api.Hash{{}, chapterLeaf(d)} {
			undecoded(t, revised(h, []byte{1}, uv(uint64(len(d))), d), api.ErrForm)
			undecoded(t, revised(h, []byte{1}, uv(uint64(len(d))), d, rep(0xff, 20)), api.ErrForm)
		}
		if len(d) > 0 {
			undecoded(t, revised(api.Hash{}, []byte{1}, uv(uint64(len(d))), d[:len(d)-1]), api.ErrShort)
		}
	}
}

// Data whose length tells too little or too much are none, whatever would make them whole.
func TestDecodeLengthOfDataIsExact(t *testing.T) {
	for _, v := range []api.Value{num(7), document(), text("abc"), list(null(), null())} {
		d, _ := codec.Encode(v)
		for n := range len(d) + 4 {
			p := revised(hashOf(v), []byte{1}, uv(uint64(n)), d)
			switch {
			case n < len(d):
				undecoded(t, p, api.ErrForm)
			case n == len(d):
				bytesAsTheChapter(t, p)
			default:
				undecoded(t, p, api.ErrShort)
				undecoded(t, cat(p, rep(0, n-len(d))), api.ErrForm)
			}
		}
	}
}

// A Kind that is none is read as one without a DataHash; then Check refuses it.
func TestDecodeKindsThatAreNone(t *testing.T) {
	for kind := range 256 {
		p := cat(rep(0, 35), []byte{1, byte(kind), 0, 0, 0, 1, 'x', 0, 0})
		switch {
		case kind == api.EntryStatement:
			decodes(t, p, api.Block{Entries: []api.Entry{statement("x")}}, api.OK)
		case kind == api.EntryRevision:
			undecoded(t, p, api.ErrShort)
		default:
			undecoded(t, p, api.ErrForm)
			undecoded(t, p[:len(p)-1], api.ErrShort)
		}
	}
}

func TestDecodeHowManyEntries(t *testing.T) {
	one := []byte{6, 1, 0, 0, 0, 0, 0}
	for _, n := range []int{0, 1, 2, 199, 200, 201, 202, 255, 256, 257, 5000, 40000} {
		p := cat([]byte{4, 0xac, 2, 9}, rep(7, 32), uv(uint64(n)), bytes.Repeat(one, n))
		if n < 1 || n > 200 {
			undecoded(t, p, api.ErrArg)
		} else {
			bytesAsTheChapter(t, p)
		}
		undecoded(t, p[:len(p)-1], api.ErrShort)
		undecoded(t, cat(p, one), api.ErrForm)
		undecoded(t, cat(p, one[:1]), api.ErrForm)
	}
	// What cannot be read is told ahead of too many entries.
	for _, n := range []int{201, 5000} {
		p := cat([]byte{4, 0xac, 2, 9}, rep(7, 32), uv(uint64(n)), bytes.Repeat(one, n-1))
		undecoded(t, cat(p, []byte{6, 0x80, 0}), api.ErrForm)
		undecoded(t, cat(p, []byte{2, 1, 1, 0, 0, 0, 0}, rep(0, 32), []byte{2}), api.ErrForm)
		undecoded(t, cat(p, []byte{2, 1, 1, 0, 0, 0, 0}, rep(0, 32), []byte{1, 1, 0}), api.ErrForm)
		undecoded(t, cat(p, []byte{2, 1, 1, 0, 0, 0, 0}, rep(0, 32), []byte{0}), api.ErrArg)
	}
}

func TestDecodeTooLong(t *testing.T) {
	for _, data := range []bool{true, false} {
		for _, n := range []int{api.MaxBlock + 1, api.MaxBlock + 2, api.MaxBlock + 5000} {
			b := filled(n, data)
			p := chapterBytes(b, true)
			undecoded(t, p, api.ErrLong)
			undecoded(t, p[:len(p)-1], api.ErrShort)
			undecoded(t, p[:api.MaxBlock], api.ErrShort)
			undecoded(t, cat(p, []byte{0}), api.ErrForm)
			// Behind all that Check says of the block and of each entry.
			for at := range len(b.Entries) + 1 {
				wrong := revision(1, 1, 0, num(1))
				wrong.DataHash[0] ^= 1
				c := b
				c.Entries = slices.Insert(slices.Clone(b.Entries), at, wrong)
				undecoded(t, chapterBytes(c, true), api.ErrDigest)
				c.Entries[at] = drop(65)
				undecoded(t, chapterBytes(c, true), api.ErrForm)
				c.Index = 1<<31 + 1
				undecoded(t, chapterBytes(c, true), api.ErrArg)
			}
		}
	}
	// Of MaxBlock bytes and something behind.
	p := chapterBytes(filled(api.MaxBlock, true), true)
	undecoded(t, cat(p, []byte{0}), api.ErrForm)
	undecoded(t, cat(p[:len(p)-1], []byte{1}), api.ErrForm)
}

// What Decode takes has one form: of all bytes that are taken, Encode writes just them.
func TestWhatDecodeTakesIsWhatEncodeWrites(t *testing.T) {
	r := rand.New(rand.NewSource(113))
	taken := 0
	for _, b := range ordinary() {
		for range 60 {
			p := spoilt(r, chapterBytes(b, r.Intn(2) == 0))
			bytesAsTheChapter(t, p)
			got, e := Decode(p)
			if e != api.OK {
				continue
			}
			taken++
			if again, f := Encode(got, true); !bytes.Equal(again, p) || f != api.OK {
				t.Fatalf("Encode of Decode of %s = %s, %v", shortBytes(p), shortBytes(again), f)
			}
		}
	}
	if taken < 300 {
		t.Errorf("only %d were taken", taken)
	}
}

// P11.4: Redact

func TestRedactEachEntry(t *testing.T) {
	for _, b := range ordinary() {
		for i, e := range b.Entries {
			switch {
			case e.Kind != api.EntryRevision:
				redacts(t, b, i, api.Block{}, api.ErrNone)
			case e.Gone:
				redacts(t, b, i, api.Block{}, api.ErrGone)
			default:
				want := b
				want.Entries = slices.Clone(b.Entries)
				want.Entries[i] = gone(e.Table, e.Doc, e.Version, e.DataHash)
				redacts(t, b, i, want, api.OK)
				redacts(t, want, i, api.Block{}, api.ErrGone)
			}
		}
		for _, i := range []int{-1, len(b.Entries), len(b.Entries) + 1, 200, 201, 1 << 31, math.MaxInt, math.MinInt} {
			if i < 0 || i >= len(b.Entries) {
				redacts(t, b, i, api.Block{}, api.ErrNone)
			}
		}
	}
}

// The spare room behind the entries has none.
func TestRedactBehindTheEnd(t *testing.T) {
	b := of(drop(1), revision(1, 1, 0, num(1)))
	b.Entries = b.Entries[:1]
	redacts(t, b, 1, api.Block{}, api.ErrNone)
}

// Check's error is ahead of what the entry is.
func TestRedactOfWhatIsNone(t *testing.T) {
	for _, entry := range []int{-1, 0, 1, 2, 3, 4} {
		redacts(t, api.Block{}, entry, api.Block{}, api.ErrArg)
		redacts(t, of(revision(1, 1, 0, num(1)), statement(""), gone(1, 1, 0, api.Hash{}), drop(1)), entry, api.Block{}, api.ErrForm)
		wrong := revision(1, 1, 0, num(1))
		wrong.DataHash[31] ^= 1
		redacts(t, of(wrong, revision(1, 1, 0, num(1)), gone(1, 1, 0, api.Hash{}), drop(1)), entry, api.Block{}, api.ErrDigest)
		redacts(t, filled(api.MaxBlock+1, true), entry, api.Block{}, api.ErrLong)
	}
	for _, f := range faults() {
		b := of(revision(1, 1, 0, num(1)), f.e)
		redacts(t, b, 0, api.Block{}, f.err)
		redacts(t, b, 1, api.Block{}, f.err)
		redacts(t, b, 2, api.Block{}, f.err)
	}
}

// P11.5: all digests stand, whatever is redacted, in whatever order.
func TestRedactChangesNoDigest(t *testing.T) {
	r := rand.New(rand.NewSource(114))
	for _, b := range ordinary() {
		want, e := Hash(b)
		if e != api.OK {
			t.Fatal(e)
		}
		var own []api.Hash
		for _, x := range b.Entries {
			h, _ := EntryHash(x)
			own = append(own, h)
		}
		for _, i := range r.Perm(len(b.Entries)) {
			if b.Entries[i].Kind != api.EntryRevision || b.Entries[i].Gone {
				continue
			}
			b, e = Redact(b, i)
			if e != api.OK || !b.Entries[i].Gone || !alike(b.Entries[i].Data, api.Value{}) {
				t.Fatalf("Redact: %v, %s", e, shortEntry(b.Entries[i]))
			}
			if h, f := Hash(b); h != want || f != api.OK {
				t.Errorf("Hash behind Redact = %x, %v, want %x", h, f, want)
			}
			if h, f := EntryHash(b.Entries[i]); h != own[i] || f != api.OK {
				t.Errorf("EntryHash behind Redact = %x, %v, want %x", h, f, own[i])
			}
			if Check(b) != api.OK {
				t.Errorf("Check behind Redact = %v", Check(b))
			}
			decodes(t, chapterBytes(b, true), b, api.OK)
		}
		for i, x := range b.Entries {
			entryHashes(t, x, own[i], api.OK)
		}
	}
}

// The chapter's example.
func TestExample(t *testing.T) {
	b := theBlock()
	before, e := Hash(b)
	redacted, f := Redact(b, 1)
	behind, g := Hash(redacted)
	if e != api.OK || f != api.OK || g != api.OK || before != behind || !redacted.Entries[1].Gone {
		t.Errorf("%x, %x, %v, %v, %v", before, behind, e, f, g)
	}
}

// What was redacted stands nowhere in what is written of the block.
func TestRedactedDataAreNotWritten(t *testing.T) {
	secret := "the secret words"
	b := of(statement("insert"), revision(1, 1, 0, record("other", text("kept"))), revision(1, 2, 0, record(strings.ReplaceAll(secret, " ", "_"), list(text(secret)))), revision(1, 3, 0, text(secret+secret)))
	for _, i := range []int{2, 3} {
		var e api.Errno
		if b, e = Redact(b, i); e != api.OK {
			t.Fatal(e)
		}
	}
	p, e := Encode(b, true)
	if e != api.OK || bytes.Contains(p, []byte("secret")) || !bytes.Contains(p, []byte("kept")) {
		t.Errorf("Encode behind Redact: %v, %s", e, shortBytes(p))
	}
}
