package index

import (
	"fmt"
	"math"
	"math/rand"
	"slices"
	"strings"
	"testing"

	"scrivener/api"
	"scrivener/block"
	"scrivener/disk"
	"scrivener/journal"
	"scrivener/value"
	"scrivener/views"
)

// shelf has tables and documents of each sort:
//
//	table 1, with indexes on a and b: those below; next is 15
//	table 2, with an index on a: 1 {a 5}
//	table 3, without one: 1 {a 5}, 2 {c 1}, 3 deleted
//	table 4, dropped, with an index on a: 1 {a 5}
//	table 5, with an index on a: none
//
// The Version 0 of table 1's document n is entry n - 1 of block 1. Its next block is the 4th.
func shelf(t *testing.T) both {
	t.Helper()
	b := newBoth()
	b.do(t, made(1, "p"), made(2, "q"), made(3, "r"), made(4, "s"), made(5, "t"), indexed(1, "a"), indexed(2, "a"), indexed(4, "a"), indexed(1, "b"), indexed(5, "a"))
	b.do(t,
		rev(1, 1, 0, 5),
		revised(1, 2, 0, object("a", decimal(55, 1))),
		revised(1, 3, 0, object("b", number(1))),
		revised(1, 4, 0, object("a", number(5), "b", number(2))),
		revised(1, 5, 0, word("a")),
		revised(1, 6, 0, object()),
		revised(1, 7, 0, object("a", api.Value{Kind: api.Null})),
		rev(1, 8, 0, 5), // deleted below
		rev(1, 9, 0, 5), // redacted below
		hidden(1, 10, 0),
		rev(1, 11, 0, 9), // {a 5} from Version 1 on
		revised(1, 12, 0, row(object("a", number(5)))),
		revised(1, 13, 0, object("c", object("a", number(5)))),
		rev(1, 14, 0, 6), // its Version 1 is redacted
		rev(2, 1, 0, 5),
		rev(3, 1, 0, 5), revised(3, 2, 0, object("c", number(1))), rev(3, 3, 0, 5),
		rev(4, 1, 0, 5),
	)
	b.do(t, rev(1, 11, 1, 5), rev(1, 14, 1, 7), deleted(1, 8, 1), deleted(3, 3, 1))
	b.do(t, redaction(1, 8), redaction(2, 1), dropped(4))
	return b
}

// onShelf is what a shelf's indexes tell.
const onShelf = "1a 7 1 4 11 2; 1b 3 4; 2a 1; 5a -"

func TestShelf(t *testing.T) {
	b := shelf(t)
	if got := told(b.s); got != onShelf {
		t.Error(got)
	}
	if got := told(Build(b.v)); got != onShelf {
		t.Error(got)
	}
	same(t, b.s, b.v, few())
	same(t, Build(b.v), b.v, few())
}

// A step is entries that come behind a shelf, and what its indexes tell then.
type step struct {
	list []api.Entry
	want string
}

func one(want string, list ...api.Entry) step { return step{list, want} }

// stepped gives each step to a shelf of its own, as one block, and each of its entries as a block of its own.
func stepped(t *testing.T, list []step) {
	t.Helper()
	whole := shelf(t)
	for i, x := range list {
		b, c := whole.copy(), whole.copy()
		unchanged(t, b.v, func() { Build(b.v).Apply(b.v, b.next(x.list...)) })
		b.do(t, x.list...)
		for _, e := range x.list {
			c.do(t, alone(e))
		}
		for _, s := range []*Set{b.s, Build(b.v), c.s, Build(c.v)} {
			if got := told(s); got != x.want {
				t.Errorf("%d: %v: %s, not %s", i, x.list, got, x.want)
			}
		}
		same(t, b.s, b.v, few())
		same(t, c.s, c.v, few())
	}
	same(t, whole.s, whole.v, few())
}

// alone is an entry of a shelf's next block as it is where each entry has its own block.
func alone(e api.Entry) api.Entry {
	if e.Kind == api.EntryRedact && e.At.Block == 4 {
		e.At = api.Address{Block: 4 + e.At.Entry}
	}
	return e
}

// P16.1

func TestRevisions(t *testing.T) {
	stepped(t, []step{
		one(onShelf, said("x")),
		// A new document.
		one("1a 7 15 1 4 11 2; 1b 3 4; 2a 1; 5a -", rev(1, 15, 0, 4)),
		one("1a 7 1 4 11 15 2; 1b 3 4; 2a 1; 5a -", rev(1, 15, 0, 5)),
		one("1a 7 1 4 11 2 15; 1b 15 3 4; 2a 1; 5a -", revised(1, 15, 0, object("a", number(6), "b", number(0)))),
		one(onShelf, revised(1, 15, 0, object("c", number(5)))),
		one(onShelf, revised(1, 15, 0, number(5))),
		one(onShelf, hidden(1, 15, 0)),
		one("1a 7 1 4 11 2; 1b 3 4; 2a 1; 5a 1", rev(5, 1, 0, 5)),
		one("1a 7 1 4 11 2; 1b 3 4; 2a 2 1; 5a -", rev(2, 2, 0, 4)),
		one(onShelf, rev(3, 4, 0, 5)),
		// Another Version of what is there.
		one("1a 7 4 11 2 1; 1b 3 4; 2a 1; 5a -", rev(1, 1, 1, 6)),
		one(onShelf, rev(1, 1, 1, 5)),
		one("1a 7 4 11 2; 1b 1 3 4; 2a 1; 5a -", revised(1, 1, 1, object("b", number(1)))),
		one("1a 7 1 11 2; 1b 3; 2a 1; 5a -", revised(1, 4, 1, object("c", number(5)))),
		one("1a 7 1 11 2; 1b 3 4; 2a 1; 5a -", revised(1, 4, 1, object("b", number(2)))),
		one("1a 7 4 11 2; 1b 3 4; 2a 1; 5a -", revised(1, 1, 1, word("a"))),
		one("1a 7 4 11 2; 1b 3 4; 2a 1; 5a -", hidden(1, 1, 1)),
		one("1a 1 4 11 2; 1b 3 4; 2a 1; 5a -", revised(1, 7, 1, object())),
		one("1a 7 1 4 11 2; 1b 3 4; 2a -; 5a -", revised(2, 1, 1, object())),
		one(onShelf, rev(3, 1, 1, 9)),
		// Another one of what was not there: no Struct, without the field, redacted, Gone at once.
		one("1a 7 1 4 5 11 2; 1b 3 4; 2a 1; 5a -", rev(1, 5, 1, 5)),
		one("1a 7 1 4 6 11 2; 1b 3 4; 2a 1; 5a -", rev(1, 6, 1, 5)),
		one("1a 7 1 4 9 11 2; 1b 3 4; 2a 1; 5a -", rev(1, 9, 1, 5)),
		one("1a 7 1 4 10 11 2; 1b 3 4; 2a 1; 5a -", rev(1, 10, 1, 5)),
		one("1a 7 1 4 11 14 2; 1b 3 4; 2a 1; 5a -", rev(1, 14, 2, 5)),
		// Several within one block.
		one("1a 7 4 11 2 1; 1b 3 4; 2a 1; 5a -", rev(1, 1, 1, 3), rev(1, 1, 2, 5), rev(1, 1, 3, 6)),
		one(onShelf, rev(1, 1, 1, 3), rev(1, 1, 2, 5)),
		one("1a 7 4 11 2; 1b 3 4; 2a 1; 5a -", rev(1, 1, 1, 3), hidden(1, 1, 2)),
		one("1a 7 4 11 2 1; 1b 3 4; 2a 1; 5a -", hidden(1, 1, 1), rev(1, 1, 2, 6)),
		one("1a 7 1 4 11 2 15; 1b 3 4; 2a 1; 5a -", rev(1, 15, 0, 3), rev(1, 15, 1, 6)),
		one("1a 7 1 4 11 2 16; 1b 3 15 4; 2a 1; 5a -", rev(1, 15, 0, 3), rev(1, 16, 0, 4), revised(1, 15, 1, object("b", number(1))), rev(1, 16, 1, 6)),
		one("1a 7 1 4 11 2; 1b 4 3; 2a 1; 5a -", revised(1, 4, 1, object("a", number(5), "b", number(1))), revised(1, 3, 1, object("b", number(2)))),
		one("1a 7 2 4 11 1; 1b 3 4; 2a 1; 5a -", revised(1, 1, 1, object("a", decimal(55, 1))), rev(1, 2, 1, 5)),
		// The same number in another table is another document.
		one("1a 7 1 4 11 2; 1b 3 4; 2a 1; 5a 1", rev(2, 1, 1, 6), rev(5, 1, 0, 7)),
		one("1a 7 4 11 2 1; 1b 3 4; 2a 1; 5a -", rev(1, 1, 1, 8), rev(2, 1, 1, 6), rev(3, 1, 1, 9)),
		one("1a 7 4 11 2 1; 1b 3 4; 2a -; 5a -", rev(2, 1, 1, 6), rev(1, 1, 1, 8), hidden(2, 1, 2)),
	})
}

func TestDeletes(t *testing.T) {
	stepped(t, []step{
		one("1a 7 4 11 2; 1b 3 4; 2a 1; 5a -", deleted(1, 1, 1)),
		one("1a 7 1 11 2; 1b 3; 2a 1; 5a -", deleted(1, 4, 1)),
		one("1a 7 1 4 2; 1b 3 4; 2a 1; 5a -", deleted(1, 11, 2)),
		one("1a 1 4 11 2; 1b 3 4; 2a 1; 5a -", deleted(1, 7, 1)),
		one("1a 7 1 4 11 2; 1b 3 4; 2a -; 5a -", deleted(2, 1, 1)),
		one("1a -; 1b -; 2a -; 5a -", deleted(1, 1, 1), deleted(1, 2, 1), deleted(1, 3, 1), deleted(2, 1, 1), deleted(1, 4, 1), deleted(1, 7, 1), deleted(1, 11, 2)),
		// Of what is in no index.
		one(onShelf, deleted(1, 5, 1), deleted(1, 6, 1), deleted(1, 9, 1), deleted(1, 10, 1), deleted(1, 12, 1), deleted(1, 13, 1), deleted(1, 14, 2), deleted(3, 1, 1)),
		// With Versions within one block.
		one(onShelf, rev(1, 15, 0, 5), deleted(1, 15, 1)),
		one("1a 7 4 11 2; 1b 3 4; 2a 1; 5a -", rev(1, 1, 1, 9), deleted(1, 1, 2)),
		one("1a 7 4 11 2; 1b 3 4; 2a 1; 5a -", rev(1, 1, 1, 5), rev(1, 1, 2, 9), deleted(1, 1, 3)),
		one("1a 7 4 11 15 2; 1b 3 4; 2a 1; 5a -", deleted(1, 1, 1), rev(1, 15, 0, 5)),
		one("1a 7 1 4 11 2; 1b 3 4; 2a -; 5a -", deleted(2, 1, 1), rev(1, 1, 1, 5)),
	})
}

func TestRedactions(t *testing.T) {
	stepped(t, []step{
		one("1a 7 4 11 2; 1b 3 4; 2a 1; 5a -", redaction(1, 0)),
		one("1a 7 1 11 2; 1b 3; 2a 1; 5a -", redaction(1, 3)),
		one("1a 7 1 4 2; 1b 3 4; 2a 1; 5a -", redaction(2, 0)),
		one("1a 7 1 4 11 2; 1b 3 4; 2a -; 5a -", redaction(1, 14)),
		one("1a -; 1b -; 2a -; 5a -", redaction(1, 0), redaction(1, 1), redaction(1, 14), redaction(1, 2), redaction(1, 3), redaction(1, 6), redaction(2, 0)),
		// Of what is in no index, or is no longer what its document is.
		one(onShelf, redaction(1, 4), redaction(1, 5), redaction(1, 7), redaction(1, 9), redaction(1, 10), redaction(1, 11), redaction(1, 12), redaction(1, 13), redaction(1, 15), redaction(1, 17), redaction(1, 18)),
		// In its own block: what was ahead doesn't come back.
		one(onShelf, rev(1, 15, 0, 5), redaction(4, 0)),
		one("1a 7 4 11 2; 1b 3 4; 2a 1; 5a -", rev(1, 1, 1, 6), redaction(4, 0)),
		one("1a 7 4 11 2 1; 1b 3 4; 2a 1; 5a -", rev(1, 1, 1, 3), rev(1, 1, 2, 6), redaction(4, 0)),
		one("1a 7 4 11 2 1; 1b 3 4; 2a 1; 5a -", rev(1, 1, 1, 3), redaction(4, 0), rev(1, 1, 2, 6)),
		one("1a 7 4 11 2; 1b 3 4; 2a 1; 5a -", rev(1, 1, 1, 3), rev(1, 1, 2, 6), redaction(4, 1)),
		one("1a 7 4 11 2; 1b 3 4; 2a 1; 5a -", rev(1, 1, 1, 3), deleted(1, 1, 2), redaction(4, 0)),
		one("1a 7 4 11 2; 1b 3 4; 2a 1; 5a -", hidden(1, 1, 1), redaction(4, 0)),
		one("1a 7 4 11 2 1; 1b 3 4; 2a 1; 5a -", hidden(1, 1, 1), redaction(4, 0), rev(1, 1, 2, 6)),
		// Of what its block revises or deletes, too.
		one("1a 7 4 11 2 1; 1b 3 4; 2a 1; 5a -", redaction(1, 0), rev(1, 1, 1, 6)),
		one("1a 7 4 11 2 1; 1b 3 4; 2a 1; 5a -", rev(1, 1, 1, 6), redaction(1, 0)),
		one(onShelf, rev(1, 1, 1, 5), redaction(1, 0)),
		one("1a 7 4 11 2; 1b 3 4; 2a 1; 5a -", redaction(1, 0), deleted(1, 1, 1)),
		one("1a 7 4 11 2; 1b 3 4; 2a 1; 5a -", rev(1, 1, 1, 6), redaction(1, 0), redaction(4, 0)),
		one("1a 7 4 11 2 15; 1b 3 4; 2a 1; 5a -", redaction(1, 0), rev(1, 15, 0, 6)),
		one("1a 7 4 11 15 2; 1b 3 4; 2a 1; 5a -", said("x"), rev(1, 15, 0, 5), rev(1, 16, 0, 5), redaction(1, 0), redaction(4, 2)),
	})
}

func TestTables(t *testing.T) {
	stepped(t, []step{
		one("1a 7 1 4 11 2; 1b 3 4; 2a 1; 5a -", made(6, "u")),
		one("1a 7 1 4 11 2; 1b 3 4; 2a 1; 5a -; 6b -", made(6, "u"), indexed(6, "b")),
		// An index on a table that has documents.
		one("1a 7 1 4 11 2; 1b 3 4; 1c 13; 2a 1; 5a -", indexed(1, "c")),
		one("1a 7 1 4 11 2; 1b 3 4; 2a 1; 3a 1; 5a -", indexed(3, "a")),
		one("1a 7 1 4 11 2; 1b 3 4; 2a 1; 3a 1; 3b -; 3c 2; 5a -", indexed(3, "c"), indexed(3, "a"), indexed(3, "b")),
		one("1a 7 1 4 11 2; 1b 3 4; 2a 1; 2b -; 3a 1; 5a -; 5c -", indexed(3, "a"), indexed(5, "c"), indexed(2, "b")),
		// The same with documents that the block changes, ahead of it or behind it.
		one("1a 7 1 4 11 2; 1b 3 4; 2a 1; 3a 4 1; 5a -", indexed(3, "a"), rev(3, 4, 0, 4)),
		one("1a 7 1 4 11 2; 1b 3 4; 2a 1; 3a 4 1; 5a -", rev(3, 4, 0, 4), indexed(3, "a")),
		one("1a 7 1 4 11 2; 1b 3 4; 2a 1; 3a 2 1; 5a -", rev(3, 2, 1, 6), indexed(3, "a"), rev(3, 1, 1, 7)),
		one("1a 7 1 4 11 2; 1b 3 4; 2a 1; 3a 1; 5a -", rev(3, 1, 1, 6), indexed(3, "a"), rev(3, 1, 2, 7)),
		one("1a 7 1 4 11 2; 1b 3 4; 2a 1; 3a -; 5a -", indexed(3, "a"), revised(3, 1, 1, word("a"))),
		one("1a 7 1 4 11 2; 1b 3 4; 2a 1; 3a -; 5a -", indexed(3, "a"), deleted(3, 1, 1)),
		one("1a 7 1 4 11 2; 1b 3 4; 2a 1; 3a -; 5a -", deleted(3, 1, 1), indexed(3, "a")),
		one("1a 7 1 4 11 2; 1b 3 4; 2a 1; 3a -; 5a -", indexed(3, "a"), redaction(1, 15)),
		one("1a 7 1 4 11 2; 1b 3 4; 2a 1; 3a -; 5a -", redaction(1, 15), indexed(3, "a")),
		one("1a 7 1 4 11 2; 1b 3 4; 2a 1; 3a -; 5a -", rev(3, 1, 1, 6), indexed(3, "a"), redaction(4, 0)),
		one("1a 7 1 4 11 2; 1b 3 4; 1c 15 13; 2a 1; 5a -", indexed(1, "c"), revised(1, 15, 0, object("c", number(1)))),
		one("1a 7 1 4 11 2 14; 1b 3 4; 1c 14 13; 2a 1; 5a -", revised(1, 14, 2, object("a", number(6), "c", number(1))), indexed(1, "c")),
		// A new table with documents.
		one("1a 7 1 4 11 2; 1b 3 4; 2a 1; 5a -; 6a 2 1", made(6, "u"), indexed(6, "a"), rev(6, 1, 0, 8), rev(6, 2, 0, 7)),
		one("1a 7 1 4 11 2; 1b 3 4; 2a 1; 5a -; 6a 1 2", made(6, "u"), rev(6, 1, 0, 8), indexed(6, "a"), rev(6, 2, 0, 7), rev(6, 2, 1, 9)),
		one("1a 7 1 4 11 2; 1b 3 4; 2a 1; 5a -; 6a 2", made(6, "u"), rev(6, 1, 0, 8), rev(6, 2, 0, 7), deleted(6, 1, 1), indexed(6, "a")),
		one("1a 7 1 4 11 2; 1b 3 4; 2a 1; 5a -; 6a -", made(6, "u"), rev(6, 1, 0, 8), redaction(4, 1), indexed(6, "a")),
	})
}

func TestDrops(t *testing.T) {
	stepped(t, []step{
		one("2a 1; 5a -", dropped(1)),
		one("1a 7 1 4 11 2; 1b 3 4; 5a -", dropped(2)),
		one(onShelf, dropped(3)),
		one("1a 7 1 4 11 2; 1b 3 4; 2a 1", dropped(5)),
		one("", dropped(5), dropped(1), dropped(2)),
		one("2a 1; 5a -", rev(1, 15, 0, 5), rev(1, 1, 1, 9), indexed(1, "c"), deleted(1, 2, 1), redaction(1, 3), dropped(1)),
		one("2a 1; 5a -", dropped(1), redaction(1, 0), redaction(1, 10)),
		one("5a -", dropped(1), dropped(2), redaction(1, 0), redaction(1, 14)),
		one("2a 2 1; 5a -", dropped(1), rev(2, 2, 0, 4)),
		one(onShelf, made(6, "u"), indexed(6, "a"), rev(6, 1, 0, 5), dropped(6)),
		one(onShelf, indexed(3, "a"), dropped(3)),
		// A table of the same name is another one.
		one("2a 1; 5a -; 6a 1", dropped(1), made(6, "p"), indexed(6, "a"), rev(6, 1, 0, 5)),
		one("2a 1; 5a -", dropped(1), made(6, "p"), rev(6, 1, 0, 5)),
		one("1a 7 1 4 11 2; 1b 3 4; 2a 1; 5a -; 6a -", made(6, "s"), indexed(6, "a")),
	})
}

// Build of nil, and of views without a document, has no index; it goes on from there.
func TestBuildOfNothing(t *testing.T) {
	for i, s := range []*Set{Build(nil), Build(views.New()), Build(new(views.Views)), new(Set)} {
		if s == nil || told(s) != "" {
			t.Error(i, s)
		}
		same(t, s, nil, few())
		same(t, s, views.New(), few())
		b := both{views.New(), s}
		b.do(t, said("x"))
		b.do(t, made(1, "p"))
		same(t, b.s, b.v, few())
		b.do(t, indexed(1, "a"), rev(1, 1, 0, 5), rev(1, 2, 0, 4))
		if got := told(b.s); got != "1a 2 1" {
			t.Error(i, got)
		}
		same(t, b.s, b.v, few())
	}
}

// P16.2

// The chapter's example.
func TestExample(t *testing.T) {
	b := newBoth()
	b.do(t, made(1, "p"), indexed(1, "a"), rev(1, 1, 0, 5), revised(1, 2, 0, object("a", decimal(55, 1))), revised(1, 3, 0, object("b", number(1))))
	for _, s := range []*Set{b.s, Build(b.v)} {
		if l, has := s.Equal(1, "a", number(5)); !has || !slices.Equal(l, []int{1}) {
			t.Error(l, has)
		}
		if l, has := s.Range(1, "a", number(5), api.Value{}); !has || !slices.Equal(l, []int{1, 2}) {
			t.Error(l, has)
		}
		if n := s.Len(1, "a"); n != 2 {
			t.Error(n)
		}
	}
}

// There is no such index: of a table that is not there, has none on that field, or is dropped.
func TestNoIndex(t *testing.T) {
	b := shelf(t)
	for _, x := range []struct {
		table int
		field string
	}{{0, "a"}, {-1, "a"}, {6, "a"}, {64, "a"}, {65, "a"}, {math.MaxInt, "a"}, {math.MinInt, "a"}, {1<<32 + 1, "a"}, {3, "a"}, {4, "a"}, {2, "b"}, {1, "c"}, {1, ""}, {1, "A"}, {1, "a\x00"}, {1, "ab"}, {1, strings.Repeat("a", 41)}} {
		for _, y := range append(few(), none()...) {
			if l, has := b.s.Equal(x.table, x.field, y); has || len(l) != 0 {
				t.Error(x, y, l)
			}
			if l, has := b.s.Range(x.table, x.field, y, number(9)); has || len(l) != 0 {
				t.Error(x, y, l)
			}
			if l, has := b.s.Range(x.table, x.field, number(1), y); has || len(l) != 0 {
				t.Error(x, y, l)
			}
		}
		if n := b.s.Len(x.table, x.field); n != 0 {
			t.Error(x, n)
		}
	}
}

// What is no value is under none, and no end of a range.
func TestNoValue(t *testing.T) {
	b := shelf(t)
	for _, x := range none() {
		if value.Check(x) == api.OK {
			t.Fatal(x, "is a value")
		}
		for _, field := range []string{"a", "b"} {
			if l, has := b.s.Equal(1, field, x); !has || len(l) != 0 {
				t.Error(field, x, l, has)
			}
		}
		if l, has := b.s.Equal(5, "a", x); !has || len(l) != 0 {
			t.Error(x, l, has)
		}
		for _, y := range none() {
			if l, has := b.s.Range(1, "a", x, y); !has || !slices.Equal(l, []int{7, 1, 4, 11, 2}) {
				t.Error(x, y, l, has)
			}
		}
		if l, has := b.s.Range(1, "a", x, decimal(55, 1)); !has || !slices.Equal(l, []int{7, 1, 4, 11}) {
			t.Error(x, l, has)
		}
		if l, has := b.s.Range(1, "a", number(5), x); !has || !slices.Equal(l, []int{1, 4, 11, 2}) {
			t.Error(x, l, has)
		}
	}
}

func TestEqual(t *testing.T) {
	b := shelf(t)
	for _, x := range []struct {
		table int
		field string
		x     api.Value
		want  []int
	}{
		{1, "a", number(5), []int{1, 4, 11}}, {1, "a", decimal(55, 1), []int{2}}, {1, "a", api.Value{Kind: api.Null}, []int{7}}, {1, "b", number(1), []int{3}}, {1, "b", number(2), []int{4}}, {2, "a", number(5), []int{1}},
		{1, "a", number(4), nil}, {1, "a", number(6), nil}, {1, "a", number(9), nil}, {1, "a", number(50), nil}, {1, "a", number(-5), nil}, {1, "a", decimal(5, 1), nil}, {1, "a", decimal(-55, 1), nil}, {1, "a", word("5"), nil}, {1, "a", word("a"), nil}, {1, "a", word(""), nil}, {1, "a", api.Value{Kind: api.Time, Int: 5}, nil}, {1, "a", api.Value{Kind: api.Bool}, nil}, {1, "a", row(number(5)), nil}, {1, "a", row(), nil}, {1, "a", object(), nil}, {1, "a", object("a", number(5)), nil}, {1, "b", number(5), nil},
		{5, "a", number(5), nil}, {5, "a", api.Value{Kind: api.Null}, nil},
	} {
		if got, has := b.s.Equal(x.table, x.field, x.x); !has || !slices.Equal(got, x.want) {
			t.Errorf("Equal(%d, %s, %v): %v %v, not %v", x.table, x.field, x.x, got, has, x.want)
		}
	}
}

func TestRange(t *testing.T) {
	b := shelf(t)
	null, no := api.Value{Kind: api.Null}, api.Value{Kind: api.Bool}
	for _, x := range []struct {
		from, to api.Value
		want     []int
	}{
		{number(5), number(6), []int{1, 4, 11, 2}}, {number(5), decimal(55, 1), []int{1, 4, 11}}, {decimal(55, 1), number(6), []int{2}}, {decimal(51, 1), number(6), []int{2}}, {decimal(49, 1), decimal(51, 1), []int{1, 4, 11}}, {null, number(5), []int{7}}, {null, no, []int{7}}, {null, word(""), []int{7, 1, 4, 11, 2}}, {no, number(math.MaxInt), []int{1, 4, 11, 2}}, {number(math.MinInt), object(), []int{1, 4, 11, 2}}, {word("a"), object(), nil}, {number(6), word(""), nil}, {number(3), number(5), nil},
		// Nothing is below and not below one value, nor between a greater and a less one.
		{number(5), number(5), nil}, {null, null, nil}, {decimal(55, 1), decimal(55, 1), nil}, {number(6), number(5), nil}, {decimal(55, 1), number(5), nil}, {object(), null, nil}, {number(5), null, nil}, {number(math.MaxInt), number(math.MinInt), nil},
	} {
		if got, has := b.s.Range(1, "a", x.from, x.to); !has || !slices.Equal(got, x.want) {
			t.Errorf("Range(%v, %v): %v %v, not %v", x.from, x.to, got, has, x.want)
		}
		if got, has := b.s.Range(5, "a", x.from, x.to); !has || len(got) != 0 {
			t.Errorf("Range(%v, %v) of no document: %v %v", x.from, x.to, got, has)
		}
	}
}

func TestLen(t *testing.T) {
	b := shelf(t)
	for _, x := range []struct {
		table int
		field string
		want  int
	}{{1, "a", 5}, {1, "b", 2}, {2, "a", 1}, {5, "a", 0}, {3, "a", 0}, {4, "a", 0}, {1, "c", 0}, {9, "a", 0}} {
		if got := b.s.Len(x.table, x.field); got != x.want {
			t.Errorf("Len(%d, %s): %d, not %d", x.table, x.field, got, x.want)
		}
	}
}

// Fields of every kind, each value under three documents that came in no order.
func TestEveryKind(t *testing.T) {
	kids := all()
	for i, x := range kids {
		if value.Check(x) != api.OK || i > 0 && value.Compare(kids[i-1], x) != -1 {
			t.Fatal(i, x)
		}
	}
	b := newBoth()
	b.do(t, made(1, "p"), indexed(1, "a"))
	order := rand.New(rand.NewSource(1)).Perm(3 * len(kids))
	under := make([][]int, len(kids))
	for i, n := range order {
		at := n % len(kids)
		under[at] = append(under[at], i+1)
		b.do(t, revised(1, i+1, 0, object("Z", number(n), "a", kids[at], "b", number(-n))))
	}
	for _, s := range []*Set{b.s, Build(b.v)} {
		for i, x := range kids {
			if got, has := s.Equal(1, "a", x); !has || !slices.Equal(got, under[i]) {
				t.Fatalf("Equal(%d): %v, not %v", i, got, under[i])
			}
			for k, y := range kids {
				want := slices.Concat(under[min(i, k):k]...)
				if got, has := s.Range(1, "a", x, y); !has || !slices.Equal(got, want) {
					t.Fatalf("Range(%d, %d): %v, not %v", i, k, got, want)
				}
			}
			if got, has := s.Range(1, "a", x, api.Value{}); !has || !slices.Equal(got, slices.Concat(under[i:]...)) {
				t.Fatalf("Range(%d, nothing): %v", i, got)
			}
			if got, has := s.Range(1, "a", api.Value{}, x); !has || !slices.Equal(got, slices.Concat(under[:i]...)) {
				t.Fatalf("Range(nothing, %d): %v", i, got)
			}
		}
	}
	sameIndex(t, b.s, b.v, 1, "a", append(few(), none()...))
	// Each value goes, and comes under another one.
	for i := range order {
		b.do(t, revised(1, i+1, 1, object("a", kids[(order[i]+1)%len(kids)])), said("x"))
	}
	for i, x := range kids {
		if got, _ := b.s.Equal(1, "a", x); len(got) != 3 || !slices.Equal(got, under[(i+len(kids)-1)%len(kids)]) {
			t.Fatalf("Equal(%d): %v", i, got)
		}
	}
	for i := range order {
		b.do(t, deleted(1, i+1, 2))
	}
	if n := b.s.Len(1, "a"); n != 0 {
		t.Error(n)
	}
	sound(t, b.s, b.v)
}

// No two values of two kinds Compare as 0: what a number's other form would be is no value, and all that are near are told apart.
func TestTwoKinds(t *testing.T) {
	b := newBoth()
	b.do(t, made(1, "p"), indexed(1, "a"), rev(1, 1, 0, 5), revised(1, 2, 0, object("a", decimal(5000000001, 9))), revised(1, 3, 0, object("a", decimal(4999999999, 9))), revised(1, 4, 0, object("a", api.Value{Kind: api.Time, Int: 5})), revised(1, 5, 0, object("a", word("5"))), revised(1, 6, 0, object("a", blob("5"))), rev(1, 7, 0, 1<<53), rev(1, 8, 0, 1<<53+1), revised(1, 9, 0, object("a", decimal(1<<60+1, 1))), rev(1, 10, 0, (1<<60)/10))
	for doc, x := range map[int]api.Value{1: number(5), 2: decimal(5000000001, 9), 3: decimal(4999999999, 9), 4: {Kind: api.Time, Int: 5}, 5: word("5"), 6: blob("5"), 7: number(1 << 53), 8: number(1<<53 + 1), 9: decimal(1<<60+1, 1), 10: number((1 << 60) / 10)} {
		if l, has := b.s.Equal(1, "a", x); !has || !slices.Equal(l, []int{doc}) {
			t.Error(doc, l, has)
		}
	}
	for scale := 1; scale <= 17; scale++ {
		n := 5
		for range scale {
			n *= 10
		}
		x := decimal(n, scale)
		if l, has := b.s.Equal(1, "a", x); !has || len(l) != 0 || value.Compare(x, number(5)) != 0 {
			t.Error(scale, l, has)
		}
		if l, has := b.s.Range(1, "a", x, number(5)); !has || !slices.Equal(l, []int{3}) {
			t.Error(scale, l, has)
		}
	}
	if got := told(b.s); got != "1a 3 1 2 7 8 10 9 4 5 6" {
		t.Error(got)
	}
	same(t, b.s, b.v, few())
}

// A document is under the field of its own, not of a Kid further down or of a name that begins so.
func TestFields(t *testing.T) {
	names := []string{"\x00", "A", "a", "a\x00", "a\x00\x00", "aa", "b", "\xff", strings.Repeat("z", api.MaxName)}
	slices.Sort(names)
	b := newBoth()
	b.do(t, made(1, "p"), made(2, "q"))
	for i, name := range names {
		b.do(t, indexed(1, name), revised(1, i+1, 0, object(name, object("a", number(i)))))
	}
	for i, name := range names {
		if l, has := b.s.Range(1, name, api.Value{}, api.Value{}); !has || !slices.Equal(l, []int{i + 1}) {
			t.Errorf("%q: %v %v", name, l, has)
		}
	}
	whole := object()
	for i, name := range names {
		whole.Names, whole.Kids = append(whole.Names, name), append(whole.Kids, number(-i))
	}
	b.do(t, revised(1, len(names)+1, 0, whole), revised(2, 1, 0, whole))
	for i, name := range names {
		if l, has := b.s.Equal(1, name, number(-i)); !has || !slices.Equal(l, []int{len(names) + 1}) {
			t.Errorf("%q: %v %v", name, l, has)
		}
		if _, has := b.s.Equal(2, name, number(-i)); has {
			t.Errorf("%q of table 2", name)
		}
	}
	same(t, b.s, b.v, few())
}

// All tables with all the indexes that they can have.
func TestManyIndexes(t *testing.T) {
	b := newBoth()
	for id := 1; id <= api.MaxTables; id++ {
		data := object()
		list := []api.Entry{made(id, fmt.Sprint("t", id))}
		for i := range 16 {
			name := string(rune('a' + i))
			list = append(list, indexed(id, name))
			data.Names, data.Kids = append(data.Names, name), append(data.Kids, number(100*id+i))
		}
		b.do(t, append(list, revised(id, 1, 0, data), revised(id, 2, 0, data), revised(id, 3, 0, object()))...)
	}
	b.do(t, dropped(7), deleted(9, 1, 1), revised(9, 3, 1, object("p", number(3))), redaction(9, 18))
	for id := 1; id <= api.MaxTables; id++ {
		for i := range 16 {
			name := string(rune('a' + i))
			want := []int{1, 2}
			switch id {
			case 7:
				want = nil
			case 9:
				want = []int{2}
			case 10:
				want = []int{1}
			}
			if l, has := b.s.Equal(id, name, number(100*id+i)); has != (id != 7) || !slices.Equal(l, want) {
				t.Errorf("%d %s: %v %v", id, name, l, has)
			}
		}
	}
	if l, _ := b.s.Equal(9, "p", number(3)); !slices.Equal(l, []int{3}) {
		t.Error(l)
	}
	sound(t, b.s, b.v)
	sound(t, Build(b.v), b.v)
}

// As many documents as a table can have, under values of their own and under one value.
func TestMaxDocs(t *testing.T) {
	b := newBoth()
	b.do(t, made(1, "p"), indexed(1, "a"), indexed(1, "b"))
	var list []api.Entry
	for doc := 1; doc <= api.MaxDocs; doc++ {
		list = append(list, revised(1, doc, 0, object("a", number(-doc), "b", number(doc%2))))
		if len(list) == api.MaxEnts || doc == api.MaxDocs {
			b.do(t, list...)
			list = nil
		}
	}
	b.do(t, rev(1, 300, 1, 5), deleted(1, 301, 1))
	for _, s := range []*Set{b.s, Build(b.v)} {
		down, _ := s.Range(1, "a", api.Value{}, number(5))
		if len(down) != api.MaxDocs-2 || s.Len(1, "a") != api.MaxDocs-1 || s.Len(1, "b") != api.MaxDocs-2 {
			t.Fatal(len(down), s.Len(1, "a"), s.Len(1, "b"))
		}
		if !slices.IsSortedFunc(down, func(x, y int) int { return y - x }) {
			t.Error("not by value")
		}
		odd, _ := s.Equal(1, "b", number(1))
		if len(odd) != api.MaxDocs/2-1 || !slices.IsSorted(odd) || odd[0] != 1 || odd[len(odd)-1] != api.MaxDocs-1 || slices.Contains(odd, 301) {
			t.Error(len(odd))
		}
		even, _ := s.Range(1, "b", number(0), number(1))
		if len(even) != api.MaxDocs/2-1 || !slices.IsSorted(even) || even[0] != 2 || even[len(even)-1] != api.MaxDocs || slices.Contains(even, 300) {
			t.Error(len(even))
		}
	}
}

// P16.3

// Of a nil Set there is nothing, and Apply does nothing.
func TestNilSet(t *testing.T) {
	var s *Set
	b := shelf(t)
	unchanged(t, b.v, func() { s.Apply(b.v, b.next(rev(1, 15, 0, 5), indexed(3, "a"))) })
	s.Apply(nil, api.Block{})
	for _, x := range append(few(), none()...) {
		for _, table := range []int{0, 1, 2, 3, 5, -1, math.MaxInt} {
			if l, has := s.Equal(table, "a", x); has || len(l) != 0 {
				t.Error(x, l)
			}
			if l, has := s.Range(table, "a", x, api.Value{}); has || len(l) != 0 {
				t.Error(x, l)
			}
			if n := s.Len(table, "a"); n != 0 {
				t.Error(n)
			}
		}
	}
}

// deeds are what can be done to a small table in its midst; each takes how the views are by then, and where its entry will stand.
func deeds() []func(b both, x api.Address) api.Entry {
	next := func(b both, doc int) int {
		n := 0
		for _, row := range b.v.History(1) {
			if row.Doc == doc {
				n = row.Version + 1
			}
		}
		return n
	}
	last := func(b both, doc, back int) api.Entry {
		return b.at(1, doc, max(next(b, doc)-1-back, 0))
	}
	return []func(both, api.Address) api.Entry{
		func(b both, _ api.Address) api.Entry { return rev(1, 1, next(b, 1), 5) },
		func(b both, _ api.Address) api.Entry { return rev(1, 1, next(b, 1), 6) },
		func(b both, _ api.Address) api.Entry { return hidden(1, 1, next(b, 1)) },
		func(b both, _ api.Address) api.Entry { return deleted(1, 1, next(b, 1)) },
		func(b both, _ api.Address) api.Entry { return last(b, 1, 0) },
		func(b both, _ api.Address) api.Entry { return last(b, 1, 1) },
		func(b both, _ api.Address) api.Entry { return rev(1, 2, next(b, 2), 5) },
		func(b both, _ api.Address) api.Entry { return indexed(1, "a") },
		func(b both, _ api.Address) api.Entry { return dropped(1) },
	}
}

// All that four deeds in a row can be, cut into blocks in all ways: what is there at the end is Build, whatever the cuts.
func TestAllScripts(t *testing.T) {
	const length = 4
	start := newBoth()
	start.do(t, made(1, "p"), rev(1, 1, 0, 5), rev(1, 2, 0, 4))
	start.do(t, rev(1, 1, 1, 7))
	second := start.copy()
	second.do(t, indexed(1, "a"))
	for _, b := range []both{start, second} {
		script(t, b, nil, length)
	}
}

// script does one more deed, each in turn, and holds all cuts of what was done so far against Build.
func script(t *testing.T, b both, list []api.Entry, left int) {
	if left == 0 {
		return
	}
	now := ahead(b, list)
	for _, deed := range deeds() {
		e := deed(now, api.Address{})
		longer := append(slices.Clone(list), e)
		if then := now.v.Copy(); then.Apply(now.next(e)) == api.OK {
			for cuts := range 1 << len(list) {
				cut(t, b, longer, cuts)
			}
			script(t, b, longer, left-1)
		}
	}
}

// ahead is b with each entry as a block of its own.
func ahead(b both, list []api.Entry) both {
	x := both{b.v.Copy(), Build(nil)}
	for _, e := range list {
		if err := x.v.Apply(x.next(e)); err != api.OK {
			panic(err)
		}
	}
	return x
}

// cut applies entries, which name each other as if each were a block, as blocks that end where cuts has a digit.
func cut(t *testing.T, b both, list []api.Entry, cuts int) {
	t.Helper()
	x := b.copy()
	first := b.v.Blocks()
	var entries []api.Entry
	var places []api.Address
	for i, e := range list {
		if e.Kind == api.EntryRedact && e.At.Block >= first {
			e.At = places[e.At.Block-first]
		}
		places = append(places, api.Address{Block: x.v.Blocks(), Entry: len(entries)})
		entries = append(entries, e)
		if cuts>>i&1 == 1 || i == len(list)-1 {
			x.do(t, entries...)
			entries = nil
		}
	}
	sound(t, x.s, x.v)
	if got, want := told(x.s), told(Build(x.v)); got != want {
		t.Fatalf("%v: %s, not %s", list, got, want)
	}
}

// drawn is entries of one block that views take.
func drawn(r *rand.Rand, b both) []api.Entry {
	var list []api.Entry
	now := b.v
	for range 1 + r.Intn(8) {
		more := append(list[:len(list):len(list)], drawnEntry(r, now, len(list)))
		then := b.v.Copy()
		if then.Apply(b.next(more...)) == api.OK {
			list, now = more, then
		}
	}
	if len(list) == 0 {
		return []api.Entry{said("x")}
	}
	return list
}

// drawnEntry is an entry for a place of a block behind all that views have, right as often as it happens to be.
func drawnEntry(r *rand.Rand, v *views.Views, i int) api.Entry {
	tables := len(v.Catalog().All())
	table := 1 + r.Intn(tables+1)
	all := v.History(table)
	doc, version := 1, 0
	var some views.Row
	if len(all) > 0 {
		some = all[r.Intn(len(all))]
		doc = some.Doc
		for _, x := range all {
			if x.Doc == doc {
				version = x.Version + 1
			}
		}
	}
	switch r.Intn(16) {
	case 0:
		return made(tables+1, fmt.Sprint(r.Intn(9)))
	case 1:
		if r.Intn(4) == 0 {
			return dropped(table)
		}
		return said("x")
	case 2, 3:
		return indexed(table, []string{"a", "b", "c"}[r.Intn(3)])
	case 4:
		return deleted(table, doc, version)
	case 5, 6:
		return redaction(some.Block, some.Entry)
	case 7:
		return redaction(v.Blocks()-1, r.Intn(i+1))
	case 8:
		return hidden(table, doc, version)
	case 9, 10, 11:
		return revised(table, max(v.Next(table), 1), 0, drawnData(r))
	}
	return revised(table, doc, version, drawnData(r))
}

// drawnData is what a document is: most often a Struct, of some fields.
func drawnData(r *rand.Rand) api.Value {
	x := object()
	for _, name := range []string{"a", "b", "c"} {
		if r.Intn(3) > 0 {
			x.Names, x.Kids = append(x.Names, name), append(x.Kids, drawnKid(r))
		}
	}
	switch r.Intn(12) {
	case 0:
		return row(x)
	case 1:
		return drawnKid(r)
	}
	return x
}

// drawnKid is a value of any kind, few of them, so that they meet.
func drawnKid(r *rand.Rand) api.Value {
	if r.Intn(3) > 0 {
		return number(4 + r.Intn(3))
	}
	list := few()
	for {
		if x := list[r.Intn(len(list))]; value.Check(x) == api.OK {
			return x
		}
	}
}

// asked is some values to ask for, some of them none.
func asked(r *rand.Rand) []api.Value {
	out := []api.Value{{}}
	for range 4 {
		list := [][]api.Value{few(), few(), all(), none()}[r.Intn(4)]
		out = append(out, list[r.Intn(len(list))])
	}
	return out
}

// Apply block by block is Build at the end, whatever the blocks have.
func TestDrawnBlocks(t *testing.T) {
	for seed := range 60 {
		r := rand.New(rand.NewSource(int64(seed)))
		b := newBoth()
		for range 40 {
			b.do(t, drawn(r, b)...)
			if got, want := told(b.s), told(Build(b.v)); got != want {
				t.Fatalf("%d: %s, not %s", seed, got, want)
			}
			same(t, b.s, b.v, asked(r))
		}
		same(t, Build(b.v), b.v, asked(r))
	}
}

// It is so from wherever Build begins, and for each of several Sets.
func TestFromAnyBlock(t *testing.T) {
	for seed := range 10 {
		r := rand.New(rand.NewSource(int64(seed)))
		b := newBoth()
		var sets []*Set
		for range 30 {
			sets = append(sets, Build(b.v))
			x := b.next(drawn(r, b)...)
			for _, s := range sets {
				s.Apply(b.v, x)
			}
			b.apply(t, x)
			for _, s := range sets {
				if told(s) != told(b.s) {
					t.Fatal(seed, told(s), told(b.s))
				}
			}
		}
		for _, s := range sets {
			same(t, s, b.v, asked(r))
		}
	}
}

// bare is blocks as a journal tells them once they are all there: what a later one redacts is Gone from its block on.
func bare(t *testing.T, list []api.Block) []api.Block {
	t.Helper()
	out := slices.Clone(list)
	for _, b := range list {
		for _, e := range b.Entries {
			if e.Kind != api.EntryRedact {
				continue
			}
			if x, err := block.Redact(out[e.At.Block], e.At.Entry); err == api.OK {
				out[e.At.Block] = x
			} else if err != api.ErrGone {
				t.Fatal(err)
			}
		}
	}
	return out
}

// P0.5: blocks of which data were taken away make the same indexes as those that they were.
func TestBareBlocks(t *testing.T) {
	for seed := range 30 {
		r := rand.New(rand.NewSource(int64(seed)))
		b := newBoth()
		var list []api.Block
		for range 30 {
			x := b.next(drawn(r, b)...)
			list = append(list, x)
			b.apply(t, x)
		}
		c := newBoth()
		for _, x := range bare(t, list) {
			c.apply(t, x)
		}
		if told(b.s) != told(c.s) {
			t.Fatal(seed, told(b.s), told(c.s))
		}
		same(t, c.s, b.v, asked(r))
		same(t, b.s, c.v, asked(r))
	}
}

// P0.3: indexes are what a journal's blocks make, also of one that was opened anew behind redactions.
func TestOfAJournal(t *testing.T) {
	d, _ := disk.New(1 << 20)
	j, _ := journal.Open(d)
	b := newBoth()
	for _, list := range [][]api.Entry{
		{made(1, "p"), made(2, "q"), indexed(1, "a"), rev(1, 1, 0, 5), rev(1, 2, 0, 5), rev(2, 1, 0, 6)}, {rev(1, 1, 1, 7), deleted(1, 2, 1)}, {redaction(0, 3), indexed(2, "a"), redaction(1, 0)}, {rev(1, 1, 2, 8), indexed(1, "b")}, {redaction(0, 4), dropped(2)}, {redaction(3, 0)}, {redaction(0, 5), rev(1, 3, 0, 5)},
	} {
		x := api.Block{Index: j.Size(), Time: 5 * j.Size(), Prev: j.Last(), Entries: list}
		if e := j.Append(x); e != api.OK {
			t.Fatal(x.Index, e)
		}
		b.apply(t, x)
		d.Crash(0)
		again, e := journal.Open(d)
		if e != api.OK {
			t.Fatal(e)
		}
		c := newBoth()
		for i := range again.Size() {
			y, _ := again.Block(i)
			c.apply(t, y)
		}
		if told(b.s) != told(c.s) {
			t.Fatal(x.Index, told(b.s), told(c.s))
		}
		same(t, c.s, b.v, few())
		j = again
	}
	if got := told(b.s); got != "1a 3; 1b -" {
		t.Error(got)
	}
}
