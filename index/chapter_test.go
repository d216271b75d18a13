package index

import (
	"cmp"
	"fmt"
	"math"
	"reflect"
	"slices"
	"strings"
	"testing"

	"scrivener/api"
	"scrivener/codec"
	"scrivener/order"
	"scrivener/value"
	"scrivener/views"
)

// The chapter written out a second time: nothing is kept, and each answer goes through all documents that views have. Of the layers
// below it are chapters 5, 14 and 15 that are asked.

// A line is a document that an index has, under its value.
type line struct {
	doc int
	kid api.Value
}

// isIndex tells whether there is an index, by what the catalog tells of its tables.
func isIndex(v *views.Views, table int, field string) bool {
	for _, t := range v.Catalog().All() {
		for _, x := range t.Indexes {
			if t.ID == table && x.Field == field {
				return true
			}
		}
	}
	return false
}

// lines is what an index has, by documents.
func lines(v *views.Views, table int, field string) []line {
	var out []line
	if !isIndex(v, table, field) {
		return nil
	}
	for _, row := range v.Docs(table) {
		if row.Data.Kind != api.Struct {
			continue
		}
		for i, name := range row.Data.Names {
			if name == field {
				out = append(out, line{row.Doc, row.Data.Kids[i]})
			}
		}
	}
	return out
}

func isValue(x api.Value) bool { return value.Check(x) == api.OK }

// docs is the documents of lines, by value, then number.
func docs(l []line) []int {
	l = slices.Clone(l)
	slices.SortFunc(l, func(a, b line) int { return cmp.Or(value.Compare(a.kid, b.kid), cmp.Compare(a.doc, b.doc)) })
	var out []int
	for _, x := range l {
		out = append(out, x.doc)
	}
	return out
}

// equal is those under values that Compare as 0 with x.
func equal(l []line, x api.Value) []int {
	var out []line
	for _, y := range l {
		if isValue(x) && value.Compare(y.kid, x) == 0 {
			out = append(out, y)
		}
	}
	return docs(out)
}

// between is those under values not below from, and below to.
func between(l []line, from, to api.Value) []int {
	var out []line
	for _, y := range l {
		if (!isValue(from) || value.Compare(y.kid, from) >= 0) && (!isValue(to) || value.Compare(y.kid, to) < 0) {
			out = append(out, y)
		}
	}
	return docs(out)
}

// tables are numbers of tables that are, or could be, and of some that can't be.
func tables(v *views.Views) []int {
	out := []int{math.MinInt, -1 << 32, -1, 63, 64, 65, 1 << 32, 1<<32 + 1, math.MaxInt}
	for id := range len(v.Catalog().All()) + 3 {
		out = append(out, id)
	}
	return out
}

// fields are all on which there is an index, and others.
func fields(v *views.Views) []string {
	out := []string{"", "a", "b", "c", "A", "aa", "a\x00", "\xff", strings.Repeat("a", api.MaxName+1)}
	for _, t := range v.Catalog().All() {
		for _, x := range t.Indexes {
			out = append(out, x.Field)
		}
	}
	slices.Sort(out)
	return slices.Compact(out)
}

// same holds all that a Set answers of these values against the chapter, and looks at what it keeps.
func same(t *testing.T, s *Set, v *views.Views, asked []api.Value) {
	t.Helper()
	for _, table := range tables(v) {
		for _, field := range fields(v) {
			sameIndex(t, s, v, table, field, asked)
		}
	}
	sound(t, s, v)
}

func sameIndex(t *testing.T, s *Set, v *views.Views, table int, field string, asked []api.Value) {
	t.Helper()
	is, l := isIndex(v, table, field), lines(v, table, field)
	if got := s.Len(table, field); got != len(l) {
		t.Fatalf("Len(%d, %q): %d, not %d", table, field, got, len(l))
	}
	for i, x := range asked {
		if got, has := s.Equal(table, field, x); has != is || !slices.Equal(got, equal(l, x)) {
			t.Fatalf("Equal(%d, %q, %v): %v %v, not %v %v", table, field, x, got, has, equal(l, x), is)
		}
		for k, y := range asked {
			// Where there is nothing some of the pairs are enough.
			if len(l) == 0 && k != i && k != 0 {
				continue
			}
			if got, has := s.Range(table, field, x, y); has != is || !slices.Equal(got, between(l, x, y)) {
				t.Fatalf("Range(%d, %q, %v, %v): %v %v, not %v %v", table, field, x, y, got, has, between(l, x, y), is)
			}
		}
	}
}

// sound looks at what is kept: a tree for each index and no others, with a key for each document and no others.
func sound(t *testing.T, s *Set, v *views.Views) {
	t.Helper()
	indexes := 0
	for _, x := range v.Catalog().All() {
		for _, y := range x.Indexes {
			indexes++
			one := s.tree(x.ID, y.Field)
			if one == nil {
				t.Fatalf("table %d: no index on %q", x.ID, y.Field)
			}
			keys := map[string]int{}
			for _, z := range lines(v, x.ID, y.Field) {
				k, e := order.Key([]api.Value{z.kid, number(z.doc)})
				if e != api.OK {
					t.Fatal(e)
				}
				keys[k] = z.doc
			}
			n := 0
			for k, doc := range one.Range("", "") {
				if want, has := keys[k]; !has || want != doc {
					t.Fatalf("table %d, %q: %q %d is kept", x.ID, y.Field, k, doc)
				}
				n++
			}
			if n != len(keys) || one.Len() != n {
				t.Fatalf("table %d, %q: %d keys of %d", x.ID, y.Field, n, len(keys))
			}
		}
	}
	if s != nil && len(s.trees) != indexes {
		t.Fatalf("%d trees of %d indexes", len(s.trees), indexes)
	}
}

// told is all documents of all indexes by their values: "1a 2 1; 1b -".
func told(s *Set) string {
	var out []string
	for table := range 9 {
		for _, field := range []string{"a", "b", "c"} {
			l, has := s.Range(table, field, api.Value{}, api.Value{})
			if !has {
				continue
			}
			text := fmt.Sprint(l)
			if len(l) == 0 {
				text = "[-]"
			}
			out = append(out, fmt.Sprintf("%d%s %s", table, field, text[1:len(text)-1]))
		}
	}
	return strings.Join(out, "; ")
}

// both is views and the Set that goes with them.
type both struct {
	v *views.Views
	s *Set
}

func newBoth() both { return both{views.New(), Build(views.New())} }

// copy is another one: there is no copy of a Set, but what views make.
func (b both) copy() both { return both{b.v.Copy(), Build(b.v)} }

// next is the block of some entries that comes next.
func (b both) next(list ...api.Entry) api.Block {
	n := b.v.Blocks()
	return api.Block{Index: n, Time: 100 + 7*n, Txn: 3 * n, Prev: api.Hash{byte(n)}, Entries: list}
}

// apply applies a block that the views take, the Set ahead of them.
func (b both) apply(t *testing.T, x api.Block) {
	t.Helper()
	b.s.Apply(b.v, x)
	if e := b.v.Apply(x); e != api.OK {
		t.Fatalf("%v: %v", x.Entries, e)
	}
}

// do applies the block of some entries that comes next.
func (b both) do(t *testing.T, list ...api.Entry) {
	t.Helper()
	b.apply(t, b.next(list...))
}

// at is the entry that redacts a Version of a document.
func (b both) at(table, doc, version int) api.Entry {
	for _, row := range b.v.History(table) {
		if row.Doc == doc && row.Version == version {
			return redaction(row.Block, row.Entry)
		}
	}
	panic("no such Row")
}

func said(text string) api.Entry { return api.Entry{Kind: api.EntryStatement, Text: text} }

func made(id int, name string) api.Entry {
	return api.Entry{Kind: api.EntryTable, Table: id, Text: name}
}

func dropped(id int) api.Entry { return api.Entry{Kind: api.EntryDrop, Table: id} }

func indexed(id int, field string) api.Entry {
	return api.Entry{Kind: api.EntryIndex, Table: id, Text: field}
}

// revised is a Revision of some data.
func revised(table, doc, version int, data api.Value) api.Entry {
	h, e := codec.Hash(data)
	if e != api.OK {
		panic(e)
	}
	return api.Entry{Kind: api.EntryRevision, Table: table, Doc: doc, Version: version, Data: data, DataHash: h}
}

// rev is a Revision of a document with one field a, a number.
func rev(table, doc, version, a int) api.Entry {
	return revised(table, doc, version, object("a", number(a)))
}

// hidden is a Revision that is Gone.
func hidden(table, doc, version int) api.Entry {
	e := rev(table, doc, version, 5)
	e.Data, e.Gone = api.Value{}, true
	return e
}

func deleted(table, doc, version int) api.Entry {
	return api.Entry{Kind: api.EntryDelete, Table: table, Doc: doc, Version: version}
}

func redaction(block, entry int) api.Entry {
	return api.Entry{Kind: api.EntryRedact, At: api.Address{Block: block, Entry: entry}}
}

func number(n int) api.Value { return api.Value{Kind: api.Int, Int: n} }

func decimal(n, scale int) api.Value { return api.Value{Kind: api.Decimal, Int: n, Scale: scale} }

func word(s string) api.Value { return api.Value{Kind: api.Text, Text: s} }

func blob(s string) api.Value { return api.Value{Kind: api.Blob, Text: s} }

func row(kids ...api.Value) api.Value { return api.Value{Kind: api.List, Kids: kids} }

// object is a Struct of names, which rise, and Kids.
func object(pairs ...any) api.Value {
	x := api.Value{Kind: api.Struct}
	for i := 0; i < len(pairs); i += 2 {
		x.Names = append(x.Names, pairs[i].(string))
		x.Kids = append(x.Kids, pairs[i+1].(api.Value))
	}
	return x
}

// nested is a value that is so deep.
func nested(deep int) api.Value {
	x := number(deep)
	for range deep - 1 {
		x = row(x)
	}
	return x
}

// all is values of every kind, rising, no two alike. Each fits into a Struct.
func all() []api.Value {
	long := strings.Repeat("x", 1<<14)
	return []api.Value{
		{Kind: api.Null}, {Kind: api.Bool}, {Kind: api.Bool, Int: 1},
		number(math.MinInt), number(math.MinInt + 1), number(-1 << 53), number(-10), decimal(-95, 1), number(-9), decimal(-15, 1), number(-1), decimal(-5, 1), decimal(-1, 18), number(0), decimal(1, 18), decimal(1, 17), decimal(5, 2), decimal(45, 2), decimal(5, 1), number(1), number(5), decimal(5000000001, 9), decimal(55, 1), number(6), decimal(math.MaxInt, 18), number(10), number(50), number(1 << 53), number(1<<53 + 1), number(math.MaxInt - 1), number(math.MaxInt),
		{Kind: api.Time}, {Kind: api.Time, Int: 5}, {Kind: api.Time, Int: 256}, {Kind: api.Time, Int: 1 << 53},
		word(""), word("\x00"), word("\x00\x00"), word("\x00\xff"), word("a"), word("a\x00"), word("a\x00\x00\xff"), word("a\x00b"), word("a\x01"), word("aa"), word("b"), word(long), word("\xff"), word("\xff\xff"),
		blob(""), blob("\x00"), blob("a"), blob("a\x00"), blob(long), blob("\xff"),
		row(), row(api.Value{Kind: api.Null}), row(number(5)), row(number(5), number(5)), row(decimal(55, 1)), row(word("a")), row(word("a"), word("b")), row(word("a\x00")), row(row()), nested(api.MaxDeep - 1),
		object(), object("a", number(5)), object("a", number(5), "b", number(1)), object("a", number(6)), object("a", object()), object("a\x00", number(5)), object("aa", number(5)), object("b", number(1)), object(strings.Repeat("\xff", api.MaxName), number(5)),
	}
}

// endless is a List of itself.
func endless() api.Value {
	x := row(number(5))
	x.Kids[0] = x
	return x
}

// none is what is no value.
func none() []api.Value {
	return []api.Value{
		{}, {Kind: -1}, {Kind: 10}, {Kind: math.MinInt, Int: 5}, {Kind: api.Null, Int: 1}, {Kind: api.Bool, Int: 2}, {Kind: api.Bool, Int: -1},
		// These would be the numbers 5, 0 and 5.5, if they were any.
		decimal(50, 1), decimal(0, 1), decimal(5, 0), decimal(550, 2), {Kind: api.Int, Int: 5, Scale: 1}, decimal(5, 19), decimal(5, -1), {Kind: api.Int, Int: 5, Text: "5"}, {Kind: api.Int, Int: 5, Kids: []api.Value{number(5)}}, {Kind: api.Int, Int: 5, Names: []string{"a"}},
		{Kind: api.Time, Int: -1}, {Kind: api.Time, Int: 1<<53 + 1},
		word(strings.Repeat("x", 1<<14+1)), blob(strings.Repeat("x", 1<<14+1)), {Kind: api.Text, Text: "a", Int: 1},
		{Kind: api.List, Kids: make([]api.Value, 1)}, {Kind: api.List, Kids: slices.Repeat([]api.Value{number(5)}, api.MaxFields+1)}, {Kind: api.List, Names: []string{"a"}}, nested(api.MaxDeep + 1), endless(),
		object("", number(5)), object("b", number(5), "a", number(5)), object("a", number(5), "a", number(5)), object("a", decimal(50, 1)), {Kind: api.Struct, Names: []string{"a"}}, object(strings.Repeat("a", api.MaxName+1), number(5)),
	}
}

// few is some values, of which the documents of most tests have one, and some that are none.
func few() []api.Value {
	return []api.Value{{}, {Kind: api.Null}, number(-1), number(4), number(5), decimal(55, 1), number(6), number(9), word("a"), row(), object("a", number(5)), decimal(50, 1), {Kind: api.Bool, Int: 2}}
}

// A sight is all that views answer.
type sight struct {
	tables  []any
	docs    [][]views.Row
	history [][]views.Row
	next    []int
	blocks  int
}

func look(v *views.Views) sight {
	x := sight{blocks: v.Blocks()}
	for _, t := range v.Catalog().All() {
		x.tables = append(x.tables, t)
	}
	for _, table := range tables(v) {
		x.docs = append(x.docs, v.Docs(table))
		x.history = append(x.history, v.History(table))
		x.next = append(x.next, v.Next(table))
	}
	return x
}

// unchanged does a thing to views that may not be changed by it.
func unchanged(t *testing.T, v *views.Views, do func()) {
	t.Helper()
	before := look(v)
	do()
	if !reflect.DeepEqual(look(v), before) {
		t.Fatal("views are changed")
	}
}
