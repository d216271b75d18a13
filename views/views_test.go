package views

import (
	"fmt"
	"math"
	"math/rand"
	"strings"
	"testing"

	"scrivener/api"
	"scrivener/block"
	"scrivener/disk"
	"scrivener/journal"
)

// shelf has a document of each sort:
//
//	table 1: 1 is of Version 1, 2 is deleted, 3 was redacted, 4 was Gone at once, 5 was so with its Version 1; next is 6
//	table 2: 1 is of Version 1
//	table 3: dropped, with a document
//	table 4: without any
//
// Its next block is the 5th.
func shelf(t *testing.T) both {
	t.Helper()
	b := newBoth()
	b.must(t, made(1, "a"), made(2, "b"), made(3, "c"), made(4, "d"), rev(1, 1, 0), rev(1, 2, 0), rev(1, 3, 0), rev(2, 1, 0), rev(3, 1, 0))
	b.must(t, rev(1, 1, 1), deleted(1, 2, 1), rev(2, 1, 1), indexed(1, "f"))
	b.must(t, hidden(1, 4, 0), rev(1, 5, 0), hidden(1, 5, 1))
	b.must(t, redacted(0, 6), dropped(3))
	b.must(t, said("x"))
	return b
}

// A try is some entries that come as one block, and what Apply answers.
type try struct {
	list []api.Entry
	want api.Errno
}

func one(want api.Errno, list ...api.Entry) try { return try{list, want} }

// tried gives each try to a shelf of its own; what Apply answers is written out in the tries, beside what the log says.
func tried(t *testing.T, list []try) {
	t.Helper()
	whole := shelf(t)
	for i, x := range list {
		b := whole.copy()
		if got := b.do(t, x.list...); got != x.want {
			t.Errorf("%d: %v: %v, not %v", i, x.list, got, x.want)
		}
		same(t, b.v, b.l)
	}
	same(t, whole.v, whole.l)
}

// P15.1

func TestExample(t *testing.T) {
	b := newBoth()
	b.must(t, made(1, "a"), rev(1, 1, 0))
	b.must(t, rev(1, 1, 1))
	docs, all := b.v.Docs(1), b.v.History(1)
	if len(docs) != 1 || docs[0].Version != 1 || len(all) != 2 || all[0].Version != 0 || all[1].Version != 1 {
		t.Error(docs, all)
	}
	same(t, b.v, b.l)
}

func TestRevisions(t *testing.T) {
	list := []try{
		one(api.OK, rev(1, 6, 0)), one(api.OK, rev(2, 2, 0)), one(api.OK, rev(4, 1, 0)),
		one(api.ErrForm, rev(1, 1, 0)), one(api.ErrForm, rev(1, 2, 0)), one(api.ErrForm, rev(1, 5, 0)), one(api.ErrForm, rev(1, 7, 0)), one(api.ErrForm, rev(1, api.MaxDocs, 0)),
		one(api.ErrForm, rev(2, 1, 0)), one(api.ErrForm, rev(2, 3, 0)), one(api.ErrForm, rev(2, 6, 0)), one(api.ErrForm, rev(4, 2, 0)), one(api.ErrForm, rev(4, 6, 0)),
		one(api.OK, rev(1, 1, 2)), one(api.OK, rev(2, 1, 2)),
		one(api.ErrForm, rev(1, 1, 1)), one(api.ErrForm, rev(1, 1, 3)), one(api.ErrForm, rev(1, 1, 1<<31)), one(api.ErrForm, rev(2, 1, 1)), one(api.ErrForm, rev(2, 1, 3)),
		// A document that is deleted is none any more; one whose last Row is Gone is one.
		one(api.ErrForm, rev(1, 2, 1)), one(api.ErrForm, rev(1, 2, 2)), one(api.ErrForm, rev(1, 2, 3)),
		one(api.OK, rev(1, 3, 1)), one(api.ErrForm, rev(1, 3, 2)), one(api.OK, rev(1, 4, 1)), one(api.ErrForm, rev(1, 4, 2)), one(api.OK, rev(1, 5, 2)), one(api.ErrForm, rev(1, 5, 1)), one(api.ErrForm, rev(1, 5, 3)),
		one(api.ErrForm, rev(1, 6, 1)), one(api.ErrForm, rev(1, 6, 2)), one(api.ErrForm, rev(1, 7, 1)), one(api.ErrForm, rev(4, 1, 1)), one(api.ErrForm, rev(2, 2, 1)),
		// Table 3 is dropped, 5 is not there.
		one(api.ErrForm, rev(3, 2, 0)), one(api.ErrForm, rev(3, 1, 0)), one(api.ErrForm, rev(3, 1, 1)), one(api.ErrForm, rev(3, 2, 1)),
		one(api.ErrForm, rev(5, 1, 0)), one(api.ErrForm, rev(5, 1, 1)), one(api.ErrForm, rev(64, 1, 0)),
		one(api.ErrForm, rev(0, 1, 0)), one(api.ErrForm, rev(65, 1, 0)), one(api.ErrForm, rev(-1, 1, 0)), one(api.ErrForm, rev(1, 0, 0)), one(api.ErrForm, rev(1, -1, 0)), one(api.ErrForm, rev(1, 1, -1)), one(api.ErrForm, rev(1, 1, math.MinInt)), one(api.ErrForm, rev(1, api.MaxDocs+1, 0)), one(api.ErrForm, rev(1, 1, 1<<31+1)),
		// Within one block.
		one(api.OK, rev(1, 6, 0), rev(1, 7, 0), rev(1, 6, 1), rev(1, 7, 1), rev(1, 6, 2), rev(1, 8, 0)), one(api.ErrForm, rev(1, 6, 0), rev(1, 6, 0)), one(api.ErrForm, rev(1, 7, 0), rev(1, 6, 0)), one(api.ErrForm, rev(1, 6, 1), rev(1, 6, 0)), one(api.ErrForm, rev(1, 6, 0), rev(1, 6, 2)),
		one(api.OK, rev(1, 1, 2), rev(1, 1, 3), rev(2, 1, 2), rev(1, 1, 4)), one(api.ErrForm, rev(1, 1, 2), rev(1, 1, 2)), one(api.ErrForm, rev(1, 1, 3), rev(1, 1, 2)), one(api.ErrForm, rev(2, 1, 2), rev(2, 1, 1)),
		one(api.OK, rev(1, 6, 0), rev(2, 2, 0), rev(4, 1, 0), rev(4, 2, 0)), one(api.ErrForm, rev(1, 6, 0), rev(2, 7, 0)), one(api.ErrForm, rev(1, 6, 0), rev(4, 1, 1)),
		one(api.OK, made(5, "e"), rev(5, 1, 0), rev(5, 1, 1)), one(api.ErrForm, rev(5, 1, 0), made(5, "e")), one(api.ErrForm, made(5, "e"), rev(5, 2, 0)), one(api.OK, made(5, "c"), rev(5, 1, 0)), one(api.ErrForm, made(5, "c"), rev(3, 1, 1)),
		one(api.OK, rev(1, 6, 0), dropped(1)), one(api.ErrForm, dropped(1), rev(1, 6, 0)), one(api.ErrForm, dropped(1), rev(1, 1, 2)), one(api.OK, dropped(1), rev(2, 2, 0)),
		one(api.ErrForm, deleted(1, 1, 2), rev(1, 1, 3)), one(api.ErrForm, deleted(1, 1, 2), rev(1, 1, 2)), one(api.ErrForm, deleted(1, 1, 2), rev(1, 1, 0)), one(api.OK, deleted(1, 1, 2), rev(1, 6, 0)),
	}
	tried(t, list)
	for _, x := range list {
		for i, e := range x.list {
			if e.Kind == api.EntryRevision {
				x.list[i].Data, x.list[i].Gone = api.Value{}, true
			}
		}
	}
	tried(t, list)
}

func TestDeletes(t *testing.T) {
	tried(t, []try{
		one(api.OK, deleted(1, 1, 2)), one(api.OK, deleted(2, 1, 2)), one(api.OK, deleted(1, 3, 1)), one(api.OK, deleted(1, 4, 1)), one(api.OK, deleted(1, 5, 2)),
		one(api.ErrForm, deleted(1, 1, 1)), one(api.ErrForm, deleted(1, 1, 3)), one(api.ErrForm, deleted(1, 1, 0)), one(api.ErrForm, deleted(1, 1, -1)), one(api.ErrForm, deleted(1, 1, 1<<31)), one(api.ErrForm, deleted(1, 3, 2)), one(api.ErrForm, deleted(1, 5, 1)),
		one(api.ErrForm, deleted(1, 2, 1)), one(api.ErrForm, deleted(1, 2, 2)), one(api.ErrForm, deleted(1, 2, 3)),
		one(api.ErrForm, deleted(1, 6, 0)), one(api.ErrForm, deleted(1, 6, 1)), one(api.ErrForm, deleted(1, 7, 1)), one(api.ErrForm, deleted(4, 1, 0)), one(api.ErrForm, deleted(4, 1, 1)), one(api.ErrForm, deleted(2, 2, 1)),
		one(api.ErrForm, deleted(3, 1, 1)), one(api.ErrForm, deleted(3, 1, 2)), one(api.ErrForm, deleted(5, 1, 1)), one(api.ErrForm, deleted(0, 1, 1)), one(api.ErrForm, deleted(65, 1, 1)),
		one(api.OK, rev(1, 6, 0), deleted(1, 6, 1)), one(api.OK, hidden(1, 6, 0), deleted(1, 6, 1)), one(api.ErrForm, rev(1, 6, 0), deleted(1, 6, 2)), one(api.ErrForm, deleted(1, 6, 1), rev(1, 6, 0)), one(api.ErrForm, rev(1, 6, 0), deleted(1, 6, 1), deleted(1, 6, 2)), one(api.ErrForm, rev(1, 6, 0), deleted(1, 6, 1), deleted(1, 6, 1)),
		one(api.OK, rev(1, 1, 2), deleted(1, 1, 3)), one(api.ErrForm, deleted(1, 1, 2), deleted(1, 1, 3)), one(api.ErrForm, dropped(1), deleted(1, 1, 2)), one(api.OK, deleted(1, 1, 2), dropped(1)),
		one(api.OK, redacted(1, 0), deleted(1, 1, 2)), one(api.OK, deleted(1, 1, 2), redacted(1, 0)), one(api.OK, deleted(1, 1, 2), redacted(0, 4)),
		// A number is not free again, though its document is deleted.
		one(api.OK, rev(1, 6, 0), deleted(1, 6, 1), rev(1, 7, 0)), one(api.ErrForm, rev(1, 6, 0), deleted(1, 6, 1), rev(1, 6, 0)),
	})
}

func TestRedactions(t *testing.T) {
	list := []try{
		// Revisions: of a document that is, of an older Version, of one that is deleted, of a table that is dropped, Gone at once.
		one(api.OK, redacted(1, 0)), one(api.OK, redacted(0, 4)), one(api.OK, redacted(0, 5)), one(api.OK, redacted(0, 7)), one(api.OK, redacted(1, 2)), one(api.OK, redacted(0, 8)), one(api.OK, redacted(2, 0)), one(api.OK, redacted(2, 1)), one(api.OK, redacted(2, 2)),
		// What is no Revision: tables, a deletion, an index, a redaction, a drop, a statement; nothing.
		one(api.ErrForm, redacted(0, 0)), one(api.ErrForm, redacted(0, 1)), one(api.ErrForm, redacted(0, 3)), one(api.ErrForm, redacted(1, 1)), one(api.ErrForm, redacted(1, 3)), one(api.ErrForm, redacted(3, 0)), one(api.ErrForm, redacted(3, 1)), one(api.ErrForm, redacted(4, 0)),
		one(api.ErrForm, redacted(0, 9)), one(api.ErrForm, redacted(0, 199)), one(api.ErrForm, redacted(0, 1<<31)), one(api.ErrForm, redacted(4, 1)), one(api.ErrForm, redacted(1<<31, 1<<31)), one(api.ErrForm, redacted(-1, 0)), one(api.ErrForm, redacted(0, -1)), one(api.ErrForm, redacted(1<<31+1, 0)), one(api.ErrForm, redacted(1<<32, 4)), one(api.ErrForm, redacted(0, 1<<32+4)),
		// Of what was named ahead.
		one(api.ErrForm, redacted(0, 6)), one(api.ErrForm, redacted(1, 0), redacted(1, 0)), one(api.ErrForm, redacted(2, 0), redacted(2, 0)), one(api.ErrForm, redacted(1, 0), rev(1, 1, 2), redacted(1, 0)), one(api.OK, redacted(1, 0), redacted(0, 4), redacted(1, 2)),
		// In its own block, behind or ahead.
		one(api.OK, rev(1, 6, 0), redacted(5, 0)), one(api.OK, hidden(1, 6, 0), redacted(5, 0)), one(api.OK, rev(1, 6, 0), rev(1, 6, 1), redacted(5, 0)), one(api.OK, rev(1, 6, 0), rev(1, 6, 1), redacted(5, 1), redacted(5, 0), rev(1, 6, 2)), one(api.OK, said("x"), rev(1, 1, 2), redacted(5, 1)),
		one(api.ErrForm, redacted(5, 1), rev(1, 6, 0)), one(api.ErrForm, redacted(5, 0)), one(api.ErrForm, redacted(5, 0), rev(1, 6, 0)), one(api.ErrForm, redacted(6, 0)), one(api.ErrForm, redacted(6, 0), rev(1, 6, 0)), one(api.ErrForm, rev(1, 6, 0), redacted(5, 1)), one(api.ErrForm, rev(1, 6, 0), redacted(6, 0)),
		one(api.ErrForm, rev(1, 6, 0), redacted(5, 0), redacted(5, 0)), one(api.ErrForm, hidden(1, 6, 0), redacted(5, 0), redacted(5, 0)), one(api.ErrForm, deleted(1, 1, 2), redacted(5, 0)), one(api.ErrForm, made(5, "e"), redacted(5, 0)), one(api.ErrForm, said("x"), redacted(5, 0)),
		one(api.OK, dropped(1), redacted(1, 0)), one(api.OK, rev(1, 6, 0), dropped(1), redacted(5, 0)), one(api.OK, rev(1, 6, 0), deleted(1, 6, 1), redacted(5, 0)), one(api.ErrForm, rev(1, 6, 0), deleted(1, 6, 1), redacted(5, 1)),
	}
	tried(t, list)
	// What one block named the next one can't.
	for _, x := range list {
		if x.want == api.OK {
			b := shelf(t)
			b.must(t, x.list...)
			for _, e := range x.list {
				if e.Kind == api.EntryRedact {
					if got := b.do(t, e); got != api.ErrForm {
						t.Errorf("%v again: %v", e.At, got)
					}
				}
			}
			same(t, b.v, b.l)
		}
	}
}

// What the catalog refuses has its error.
func TestTables(t *testing.T) {
	tried(t, []try{
		one(api.OK, made(5, "e")), one(api.OK, made(5, "c")), one(api.OK, dropped(1)), one(api.OK, dropped(4)), one(api.OK, indexed(1, "g")), one(api.OK, indexed(2, "f")), one(api.OK, said("x"), said("x")),
		one(api.ErrHas, made(5, "a")), one(api.ErrForm, made(4, "e")), one(api.ErrForm, made(6, "e")), one(api.ErrForm, made(3, "c")), one(api.ErrForm, made(6, "a")),
		one(api.ErrNone, dropped(3)), one(api.ErrNone, dropped(5)), one(api.ErrNone, dropped(64)), one(api.ErrNone, indexed(3, "f")), one(api.ErrNone, indexed(5, "f")), one(api.ErrHas, indexed(1, "f")),
		one(api.OK, made(5, "e"), made(6, "f"), dropped(5), made(7, "e")), one(api.ErrHas, made(5, "e"), made(6, "e")), one(api.ErrNone, dropped(1), dropped(1)), one(api.ErrNone, dropped(1), indexed(1, "g")), one(api.ErrHas, indexed(1, "g"), indexed(1, "g")), one(api.OK, dropped(1), made(5, "a"), indexed(5, "f"), rev(5, 1, 0)),
		one(api.ErrForm, made(5, "")), one(api.ErrForm, made(5, strings.Repeat("n", 41))), one(api.ErrForm, made(0, "e")), one(api.ErrForm, made(65, "e")), one(api.ErrForm, dropped(0)), one(api.ErrForm, dropped(65)), one(api.ErrForm, indexed(1, "")),
	})
	b := newBoth()
	for id := 1; id <= 64; id++ {
		b.must(t, made(id, fmt.Sprint(id)), rev(id, 1, 0))
	}
	for i := range 16 {
		b.must(t, indexed(64, fmt.Sprint(i)))
	}
	for _, x := range []try{one(api.ErrLimit, made(64, "more")), one(api.ErrLimit, indexed(64, "more")), one(api.ErrHas, indexed(64, "7")), one(api.OK, rev(64, 2, 0)), one(api.ErrLimit, dropped(1), made(64, "1")), one(api.OK, dropped(1))} {
		if got := b.do(t, x.list...); got != x.want {
			t.Errorf("%v: %v, not %v", x.list, got, x.want)
		}
	}
	same(t, b.v, b.l)
}

// An Index that is not how many blocks were applied comes ahead of all else.
func TestIndex(t *testing.T) {
	for n := range 4 {
		b := newBoth()
		for i := range n {
			b.must(t, made(i+1, fmt.Sprint(i)))
		}
		for _, index := range []int{math.MinInt, -1, 0, 1, 2, 3, 4, 5, 1 << 31, 1<<31 + 1, 1 << 32, math.MaxInt} {
			bad := rev(1, 1, 0)
			bad.DataHash[5]++
			for _, list := range [][]api.Entry{{said("x")}, nil, {bad}, {dropped(60)}, {{}}, {rev(60, 1, 0)}, make([]api.Entry, 201)} {
				if index == n && len(list) == 1 && list[0].Kind == api.EntryStatement {
					continue
				}
				x := b.next(list...)
				x.Index = index
				want := api.ErrForm
				switch {
				case index == n && (len(list) == 0 || len(list) > 200):
					want = api.ErrArg
				case index == n && list[0].Kind == api.EntryRevision && list[0].DataHash == bad.DataHash:
					want = api.ErrDigest
				case index == n && list[0].Kind == api.EntryDrop:
					want = api.ErrNone
				}
				if got := b.apply(t, x); got != want {
					t.Errorf("%d blocks, Index %d, %d entries: %v, not %v", n, index, len(list), got, want)
				}
				x.Time = -1
				if got := b.apply(t, x); got != api.ErrForm && index != n || got != api.ErrArg && index == n {
					t.Errorf("%d blocks, Index %d, a wrong Time: %v", n, index, got)
				}
			}
		}
		same(t, b.v, b.l)
	}
}

// long is Revisions of one document that are too many bytes for a block.
func long(table, doc, version int) []api.Entry {
	var list []api.Entry
	data := api.Value{Kind: api.Text, Text: strings.Repeat("x", 1<<14)}
	for i := range 20 {
		list = append(list, revised(table, doc, version+i, data))
	}
	return list
}

// Chapter 11's Check of all of the block comes ahead of its first entry.
func TestCheckFirst(t *testing.T) {
	wrong := rev(1, 1, 2)
	wrong.DataHash[31]++
	deep := number(1)
	for range api.MaxDeep {
		deep = api.Value{Kind: api.List, Kids: []api.Value{deep}}
	}
	within := api.Value{Kind: api.List, Kids: make([]api.Value, 1)}
	within.Kids[0] = within
	tooDeep, endless, noValue, tooLong, named, twice := rev(1, 1, 2), rev(1, 1, 2), rev(1, 1, 2), rev(1, 1, 2), rev(1, 1, 2), rev(1, 1, 2)
	tooDeep.Data = deep
	endless.Data = within
	noValue.Data = api.Value{Kind: 10}
	tooLong.Data = api.Value{Kind: api.Text, Text: strings.Repeat("x", 1<<14+1)}
	named.Text = "x"
	twice.Gone = true
	for i, x := range []try{
		one(api.ErrDigest, wrong), one(api.ErrDeep, tooDeep), one(api.ErrDeep, endless), one(api.ErrForm, noValue), one(api.ErrLong, tooLong), one(api.ErrForm, named), one(api.ErrForm, twice), one(api.ErrForm, api.Entry{}), one(api.ErrForm, api.Entry{Kind: 8}), one(api.ErrArg, make([]api.Entry, 201)...), one(api.ErrLong, long(1, 1, 2)...),
	} {
		for _, first := range []api.Entry{said("x"), dropped(9), made(9, "e"), made(5, "a"), rev(9, 1, 0), rev(1, 1, 1), deleted(1, 2, 2), redacted(0, 0)} {
			b := shelf(t)
			if got := b.do(t, append([]api.Entry{first}, x.list...)...); got != x.want {
				t.Errorf("%d behind a Kind %d: %v, not %v", i, first.Kind, got, x.want)
			}
			if got := b.do(t, append(append([]api.Entry{}, x.list...), first)...); got != x.want {
				t.Errorf("%d ahead of a Kind %d: %v, not %v", i, first.Kind, got, x.want)
			}
			same(t, b.v, b.l)
		}
	}
	b := shelf(t)
	for _, x := range []api.Block{{}, {Entries: []api.Entry{}}, {Time: -1, Entries: []api.Entry{dropped(9)}}, {Txn: -1, Entries: []api.Entry{dropped(9)}}, {Time: 1<<53 + 1, Entries: []api.Entry{wrong}}, {Txn: 1<<53 + 1, Entries: []api.Entry{dropped(1)}}} {
		x.Index = b.v.Blocks()
		if got := b.apply(t, x); got != api.ErrArg {
			t.Errorf("%v: %v", x, got)
		}
	}
	same(t, b.v, b.l)
}

// Of several entries that are refused the first one's error is told.
func TestFirstEntry(t *testing.T) {
	refused := []try{one(api.ErrNone, dropped(9)), one(api.ErrHas, made(5, "a")), one(api.ErrForm, rev(9, 1, 0)), one(api.ErrForm, deleted(1, 2, 2)), one(api.ErrForm, redacted(0, 0)), one(api.ErrHas, indexed(1, "f")), one(api.ErrNone, indexed(3, "f"))}
	var list []try
	for _, x := range refused {
		for _, y := range refused {
			list = append(list, one(x.want, x.list[0], y.list[0]), one(x.want, rev(1, 6, 0), x.list[0], y.list[0]), one(x.want, said("x"), x.list[0], said("y"), y.list[0]))
		}
	}
	tried(t, list)
}

// An error changes nothing of the whole block: also not what its earlier entries made, on their own or of one another.
func TestErrorsChangeNothing(t *testing.T) {
	whole := shelf(t)
	taken := [][]api.Entry{
		{said("x")}, {made(5, "e")}, {dropped(1)}, {indexed(2, "f")}, {rev(1, 6, 0)}, {rev(1, 1, 2)}, {rev(1, 3, 1)}, {rev(4, 1, 0)}, {hidden(1, 6, 0)}, {deleted(1, 1, 2)}, {deleted(1, 4, 1)}, {redacted(1, 0)}, {redacted(2, 0)}, {redacted(0, 8)},
		{made(5, "e"), rev(5, 1, 0), rev(5, 1, 1), indexed(5, "f"), deleted(5, 1, 2), rev(5, 2, 0), dropped(5)},
		{rev(1, 6, 0), rev(1, 6, 1), redacted(5, 0), redacted(5, 1), deleted(1, 6, 2), rev(1, 7, 0)},
		{rev(1, 1, 2), rev(1, 1, 3), redacted(1, 0), redacted(0, 4), redacted(5, 1), deleted(1, 1, 4), dropped(1), made(5, "a"), rev(5, 1, 0)},
	}
	refused := []try{one(api.ErrNone, dropped(9)), one(api.ErrHas, made(6, "b")), one(api.ErrForm, made(9, "z")), one(api.ErrForm, rev(9, 1, 0)), one(api.ErrForm, deleted(1, 2, 2)), one(api.ErrForm, redacted(0, 0)), one(api.ErrForm, redacted(0, 6))}
	for _, list := range taken {
		for _, x := range refused {
			b := whole.copy()
			was := b.v.Catalog()
			for range 2 {
				if got := b.do(t, append(append([]api.Entry{}, list...), x.list...)...); got == api.OK {
					t.Fatalf("%v behind %v: OK", x.list, list)
				}
				same(t, b.v, b.l)
			}
			b.must(t, list...)
			same(t, b.v, b.l)
			if b.v.Catalog() != was {
				t.Fatal("another Catalog")
			}
		}
	}
}

// P15.2

func TestDocs(t *testing.T) {
	b := shelf(t)
	for _, x := range []struct{ table, docs, rows, next int }{{1, 1, 8, 6}, {2, 1, 2, 2}, {3, 0, 1, 2}, {4, 0, 0, 1}, {5, 0, 0, 0}, {0, 0, 0, 0}, {-1, 0, 0, 0}, {64, 0, 0, 0}, {65, 0, 0, 0}, {math.MinInt, 0, 0, 0}, {math.MaxInt, 0, 0, 0}} {
		if docs, all, next := b.v.Docs(x.table), b.v.History(x.table), b.v.Next(x.table); len(docs) != x.docs || len(all) != x.rows || next != x.next {
			t.Errorf("table %d: %v, %v, %d", x.table, docs, all, next)
		}
	}
	if b.v.Blocks() != 5 {
		t.Error(b.v.Blocks())
	}
	want := Row{Table: 1, Doc: 1, Version: 1, Data: told(1, 1, 1), Block: 1, Entry: 0, Time: 107}
	got, is := b.v.Doc(1, 1)
	if !is || !sameRow(got, want) || !sameRow(b.v.Docs(1)[0], want) {
		t.Error(got, is)
	}
	for _, x := range [][2]int{{1, 2}, {1, 3}, {1, 4}, {1, 5}, {1, 6}, {1, 0}, {1, -1}, {2, 2}, {3, 1}, {4, 1}, {5, 1}, {0, 1}, {65, 1}, {1, math.MaxInt}, {math.MinInt, 1}} {
		if got, is := b.v.Doc(x[0], x[1]); is || !sameRow(got, Row{}) {
			t.Error(x, got, is)
		}
	}
	same(t, b.v, b.l)
}

func TestHistory(t *testing.T) {
	b := shelf(t)
	for table, want := range map[int][]Row{
		1: {
			{Table: 1, Doc: 1, Data: told(1, 1, 0), Entry: 4, Time: 100},
			{Table: 1, Doc: 1, Version: 1, Data: told(1, 1, 1), Block: 1, Entry: 0, Time: 107},
			{Table: 1, Doc: 2, Data: told(1, 2, 0), Entry: 5, Time: 100},
			{Table: 1, Doc: 2, Version: 1, Deleted: true, Block: 1, Entry: 1, Time: 107},
			{Table: 1, Doc: 3, Gone: true, Entry: 6, Time: 100},
			{Table: 1, Doc: 4, Gone: true, Block: 2, Time: 114},
			{Table: 1, Doc: 5, Data: told(1, 5, 0), Block: 2, Entry: 1, Time: 114},
			{Table: 1, Doc: 5, Version: 1, Gone: true, Block: 2, Entry: 2, Time: 114},
		},
		2: {
			{Table: 2, Doc: 1, Data: told(2, 1, 0), Entry: 7, Time: 100},
			{Table: 2, Doc: 1, Version: 1, Data: told(2, 1, 1), Block: 1, Entry: 2, Time: 107},
		},
		3: {{Table: 3, Doc: 1, Data: told(3, 1, 0), Entry: 8, Time: 100}},
		4: {},
	} {
		if got := b.v.History(table); !sameRows(got, want) {
			t.Errorf("table %d: %v", table, got)
		}
	}
}

// What a redaction takes is taken of its Row alone, and of Docs where it is the last one; a later Version brings the document back.
func TestGoneAndBack(t *testing.T) {
	b := shelf(t)
	b.must(t, redacted(1, 0))
	if docs := b.v.Docs(1); len(docs) != 0 {
		t.Error("the older Version came back", docs)
	}
	if all := b.v.History(1); all[0].Gone || all[0].Data.Kind == 0 || !all[1].Gone || all[1].Data.Kind != 0 {
		t.Error(all)
	}
	b.must(t, rev(1, 1, 2), rev(1, 3, 1), rev(1, 4, 1), rev(1, 5, 2))
	if docs := b.v.Docs(1); len(docs) != 4 || docs[0].Version != 2 || docs[1].Doc != 3 || docs[2].Doc != 4 || docs[3].Doc != 5 {
		t.Error(docs)
	}
	b.must(t, redacted(0, 4), redacted(2, 1))
	if docs := b.v.Docs(1); len(docs) != 4 {
		t.Error(docs)
	}
	b.must(t, deleted(1, 1, 3), redacted(6, 0))
	if docs, all := b.v.Docs(1), b.v.History(1); len(docs) != 3 || !all[2].Gone || !all[3].Deleted || all[3].Gone {
		t.Error(docs, all)
	}
	same(t, b.v, b.l)
}

// A table that is dropped has no document any more, and all of its history; a new one of its name has its own.
func TestDropped(t *testing.T) {
	b := shelf(t)
	before := b.v.History(1)
	b.must(t, dropped(1), made(5, "a"), rev(5, 1, 0))
	if _, is := b.v.Doc(1, 1); is || len(b.v.Docs(1)) != 0 || !sameRows(b.v.History(1), before) || b.v.Next(1) != 6 {
		t.Error("a table that is dropped")
	}
	if docs := b.v.Docs(5); len(docs) != 1 || docs[0].Table != 5 || b.v.Next(5) != 2 {
		t.Error(docs)
	}
	b.must(t, redacted(1, 0))
	if all := b.v.History(1); !all[1].Gone || all[0].Gone {
		t.Error(all)
	}
	same(t, b.v, b.l)
}

// Rows are by Doc, then Version, in whatever order they came.
func TestOrder(t *testing.T) {
	for seed := range 20 {
		r := rand.New(rand.NewSource(int64(seed)))
		b := newBoth()
		b.must(t, made(1, "a"), made(2, "b"))
		versions := [2][]int{}
		for range 40 {
			var list []api.Entry
			for range 1 + r.Intn(10) {
				table := r.Intn(2)
				if doc := r.Intn(13); doc >= len(versions[table]) {
					versions[table] = append(versions[table], 0)
					list = append(list, rev(table+1, len(versions[table]), 0))
				} else {
					versions[table][doc]++
					list = append(list, rev(table+1, doc+1, versions[table][doc]))
				}
			}
			b.must(t, list...)
		}
		for table, docs := range versions {
			all := b.v.History(table + 1)
			for doc, most := range docs {
				for version := range most + 1 {
					if x := all[0]; x.Doc != doc+1 || x.Version != version || x.Table != table+1 || !sameData(x.Data, told(table+1, doc+1, version)) {
						t.Fatal(seed, x)
					}
					all = all[1:]
				}
			}
			if len(all) != 0 || len(b.v.Docs(table+1)) != len(docs) {
				t.Fatal(seed, all)
			}
		}
		same(t, b.v, b.l)
	}
}

// The bounds of a block's numbers: its Time and its place are told as they are.
func TestTimes(t *testing.T) {
	b := newBoth()
	for i, time := range []int{1 << 53, 0, 5, 5, 4, 1<<53 - 1} {
		x := b.next(rev(1, 1, i))
		if i == 0 {
			x.Entries = []api.Entry{made(1, "a"), rev(1, 1, 0)}
		}
		x.Time, x.Txn = time, 1<<53-i
		if e := b.apply(t, x); e != api.OK {
			t.Fatal(i, e)
		}
		if row, is := b.v.Doc(1, 1); !is || row.Time != time || row.Block != i || row.Version != i {
			t.Error(row, is)
		}
	}
	same(t, b.v, b.l)
}

// The last document that a table can have is its 2^16th.
func TestMaxDocs(t *testing.T) {
	v := New()
	if e := v.Apply(api.Block{Entries: []api.Entry{made(1, "a"), made(2, "b")}}); e != api.OK {
		t.Fatal(e)
	}
	apply := func(list []api.Entry) {
		if e := v.Apply(api.Block{Index: v.Blocks(), Time: v.Blocks(), Entries: list}); e != api.OK {
			t.Fatal(v.Blocks(), e)
		}
	}
	var list []api.Entry
	for doc := 1; doc <= api.MaxDocs; doc++ {
		if list = append(list, rev(1, doc, 0)); len(list) == api.MaxEnts || doc == api.MaxDocs {
			apply(list)
			list = nil
		}
	}
	if v.Next(1) != api.MaxDocs+1 || v.Next(2) != 1 {
		t.Error(v.Next(1), v.Next(2))
	}
	for _, doc := range []int{1, api.MaxDocs, api.MaxDocs + 1} {
		if e := v.Apply(api.Block{Index: v.Blocks(), Entries: []api.Entry{rev(1, doc, 0)}}); e != api.ErrForm {
			t.Error(doc, e)
		}
	}
	apply([]api.Entry{rev(1, api.MaxDocs, 1), deleted(1, api.MaxDocs-1, 1), rev(2, 1, 0)})
	docs := v.Docs(1)
	if len(docs) != api.MaxDocs-1 || len(v.History(1)) != api.MaxDocs+2 {
		t.Fatal(len(docs), len(v.History(1)))
	}
	for i, x := range docs[:api.MaxDocs-2] {
		if x.Doc != i+1 || x.Version != 0 || x.Block != 1+i/200 || x.Entry != i%200 {
			t.Fatal(x)
		}
	}
	if x := docs[api.MaxDocs-2]; x.Doc != api.MaxDocs || x.Version != 1 {
		t.Error(x)
	}
}

// Many Versions of one document.
func TestManyVersions(t *testing.T) {
	v := New()
	list := []api.Entry{made(1, "a")}
	for version := range 5000 {
		if list = append(list, rev(1, 1, version)); len(list) == api.MaxEnts || version == 4999 {
			if e := v.Apply(api.Block{Index: v.Blocks(), Entries: list}); e != api.OK {
				t.Fatal(e)
			}
			list = nil
		}
	}
	all := v.History(1)
	if len(all) != 5000 || len(v.Docs(1)) != 1 || v.Next(1) != 2 {
		t.Fatal(len(all))
	}
	for i, x := range all {
		if x.Version != i || !sameData(x.Data, told(1, 1, i)) {
			t.Fatal(i, x)
		}
	}
}

// P15.3

// The catalog is the views' own: whoever has it sees the tables as they are by now.
func TestCatalog(t *testing.T) {
	b := newBoth()
	c := b.v.Catalog()
	if c == nil || len(c.All()) != 0 {
		t.Fatal(c)
	}
	b.must(t, made(1, "a"), indexed(1, "f"))
	if x, e := c.Find("a"); e != api.OK || x.ID != 1 || !c.Has(1, "f") || b.v.Catalog() != c {
		t.Error(x, e)
	}
	if e := b.do(t, made(2, "b"), dropped(1), dropped(1)); e != api.ErrNone {
		t.Error(e)
	}
	if len(c.All()) != 1 || !c.Has(1, "f") || b.v.Catalog() != c {
		t.Error(c.All())
	}
	d := b.copy()
	if d.v.Catalog() == c {
		t.Error("a Copy has the same Catalog")
	}
	d.must(t, made(2, "d"), dropped(1))
	if len(c.All()) != 1 || !c.Has(1, "f") {
		t.Error(c.All())
	}
	b.must(t, dropped(1), made(2, "b"))
	if _, e := c.Find("a"); e != api.ErrName || len(c.All()) != 2 {
		t.Error(c.All())
	}
	same(t, b.v, b.l)
	same(t, d.v, d.l)
}

// changes are blocks that a shelf takes one behind the other, of each sort of entry.
func changes() [][]api.Entry {
	return [][]api.Entry{
		{rev(1, 1, 2), rev(1, 6, 0)}, {deleted(1, 1, 3), rev(1, 3, 1)}, {redacted(5, 0), redacted(2, 0), redacted(0, 7)}, {made(5, "e"), rev(5, 1, 0), indexed(5, "g")}, {rev(2, 1, 2), redacted(1, 2)}, {dropped(2), redacted(0, 8)}, {rev(4, 1, 0), hidden(4, 2, 0), redacted(11, 0)}, {said("x")},
	}
}

// Nothing done to one is seen in the other, whichever goes on, and whenever it was copied.
func TestCopy(t *testing.T) {
	list := changes()
	for at := range len(list) + 1 {
		for _, other := range []bool{false, true} {
			b := shelf(t)
			for _, x := range list[:at] {
				b.must(t, x...)
			}
			c := b.copy()
			same(t, c.v, c.l)
			goes, stays := b, c
			if other {
				goes, stays = c, b
			}
			for _, x := range list[at:] {
				goes.must(t, x...)
				same(t, stays.v, stays.l)
			}
			same(t, goes.v, goes.l)
			stays.must(t, rev(1, 5, 2), hidden(1, stays.v.Next(1), 0), redacted(2, 2), made(len(stays.v.Catalog().All())+1, "z"))
			same(t, stays.v, stays.l)
			same(t, goes.v, goes.l)
			if len(list[at:]) > 0 {
				third := stays.copy()
				third.do(t, list[at]...)
				same(t, third.v, third.l)
				same(t, stays.v, stays.l)
			}
		}
	}
}

// Of one place each Copy can have another Row.
func TestCopiesPart(t *testing.T) {
	b := shelf(t)
	var list []both
	for i := range 6 {
		c := b.copy()
		c.must(t, revised(1, 1, 2, number(i)), revised(1, 6, 0, number(-i)))
		list = append(list, c)
	}
	list[2].must(t, redacted(5, 0))
	list[3].must(t, redacted(1, 0))
	list[4].must(t, deleted(1, 1, 3))
	for i, c := range list {
		same(t, c.v, c.l)
		if x, is := c.v.Doc(1, 6); !is || x.Data.Int != -i {
			t.Error(i, x)
		}
	}
	same(t, b.v, b.l)
}

// P15.4

// Views of blocks one by one are what views of all of them are, at any time.
func TestOneByOne(t *testing.T) {
	b := shelf(t)
	for _, x := range changes() {
		b.must(t, x...)
	}
	for n := range len(b.l.taken) + 1 {
		fresh := newBoth()
		for _, x := range b.l.taken[:n] {
			if e := fresh.apply(t, x); e != api.OK {
				t.Fatal(n, e)
			}
		}
		same(t, fresh.v, fresh.l)
	}
}

// bare is blocks as a journal tells them once they are all there: what a later one redacts is Gone from its block on.
func bare(t *testing.T, blocks []api.Block) []api.Block {
	t.Helper()
	out := append([]api.Block{}, blocks...)
	for _, b := range blocks {
		for _, e := range b.Entries {
			if e.Kind != api.EntryRedact {
				continue
			}
			less, err := block.Redact(out[e.At.Block], e.At.Entry)
			if err != api.OK && err != api.ErrGone {
				t.Fatal(err)
			}
			if err == api.OK {
				out[e.At.Block] = less
			}
		}
	}
	return out
}

// sameViews holds all answers of two views against each other.
func sameViews(t *testing.T, v, w *Views) {
	t.Helper()
	if v.Blocks() != w.Blocks() {
		t.Fatal(v.Blocks(), w.Blocks())
	}
	for table := range 66 {
		if !sameRows(v.History(table), w.History(table)) || !sameRows(v.Docs(table), w.Docs(table)) || v.Next(table) != w.Next(table) {
			t.Fatalf("table %d: %v, not %v", table, v.History(table), w.History(table))
		}
	}
}

// Redacted blocks make what the whole ones do, and what they named can't be named again.
func TestRedactedBlocks(t *testing.T) {
	b := shelf(t)
	for _, x := range changes() {
		b.must(t, x...)
	}
	less := newBoth()
	for _, x := range bare(t, b.l.taken) {
		if e := less.apply(t, x); e != api.OK {
			t.Fatal(x.Index, e)
		}
	}
	same(t, less.v, less.l)
	sameViews(t, less.v, b.v)
	for _, x := range b.l.taken {
		for _, e := range x.Entries {
			if e.Kind == api.EntryRedact {
				if got := less.do(t, e); got != api.ErrForm {
					t.Error(e.At, got)
				}
			}
		}
	}
}

// Without any of their data blocks make the same Rows, all of them Gone.
func TestWithoutData(t *testing.T) {
	b := shelf(t)
	for _, x := range changes() {
		b.must(t, x...)
	}
	less := newBoth()
	for _, x := range b.l.taken {
		p, _ := block.Encode(x, false)
		x, _ = block.Decode(p)
		if e := less.apply(t, x); e != api.OK {
			t.Fatal(x.Index, e)
		}
	}
	same(t, less.v, less.l)
	for table := range 6 {
		all, bare := b.v.History(table), less.v.History(table)
		for i := range all {
			all[i].Gone, all[i].Data = !all[i].Deleted, api.Value{}
		}
		if !sameRows(all, bare) || len(less.v.Docs(table)) != 0 || less.v.Next(table) != b.v.Next(table) {
			t.Error(table, bare)
		}
	}
}

// A redaction changes nothing but its Row, and how many blocks there are.
func TestOneRowAlone(t *testing.T) {
	whole := shelf(t)
	for _, x := range changes() {
		whole.must(t, x...)
	}
	for i, x := range whole.l.taken {
		for k := range x.Entries {
			b := whole.copy()
			if b.do(t, redacted(i, k)) != api.OK {
				continue
			}
			for table := range 7 {
				before, after := whole.v.History(table), b.v.History(table)
				for n, row := range before {
					if row.Block == i && row.Entry == k {
						before[n].Gone, before[n].Data = true, api.Value{}
					}
				}
				if !sameRows(before, after) || whole.v.Next(table) != b.v.Next(table) {
					t.Fatal(i, k, after)
				}
				for _, row := range whole.v.Docs(table) {
					got, is := b.v.Doc(table, row.Doc)
					if gone := row.Block == i && row.Entry == k; is == gone || is && !sameRow(got, row) {
						t.Fatal(i, k, got)
					}
				}
			}
			if len(b.v.Catalog().All()) != len(whole.v.Catalog().All()) || b.v.Blocks() != whole.v.Blocks()+1 {
				t.Fatal(i, k)
			}
		}
	}
}

// P0.3: views are what a journal's blocks make, also of one that was opened anew behind redactions.
func TestOfAJournal(t *testing.T) {
	d, _ := disk.New(1 << 20)
	j, _ := journal.Open(d)
	v := New()
	for _, list := range [][]api.Entry{
		{made(1, "a"), made(2, "b"), rev(1, 1, 0), rev(1, 2, 0), rev(2, 1, 0)}, {rev(1, 1, 1), deleted(1, 2, 1)}, {redacted(0, 2), redacted(1, 0)}, {rev(1, 1, 2), indexed(1, "f")}, {redacted(0, 3), dropped(2)}, {redacted(0, 4)},
	} {
		b := api.Block{Index: j.Size(), Time: 5 * j.Size(), Prev: j.Last(), Entries: list}
		if e := j.Append(b); e != api.OK {
			t.Fatal(b.Index, e)
		}
		if e := v.Apply(b); e != api.OK {
			t.Fatal(b.Index, e)
		}
		d.Crash(0)
		again, e := journal.Open(d)
		if e != api.OK {
			t.Fatal(e)
		}
		w := New()
		for i := range again.Size() {
			x, _ := again.Block(i)
			if e := w.Apply(x); e != api.OK {
				t.Fatal(i, e)
			}
		}
		sameViews(t, v, w)
		j = again
	}
}

func TestNil(t *testing.T) {
	var v *Views
	b := newBoth()
	for _, x := range []api.Block{{}, b.next(made(1, "a")), b.next(rev(1, 1, 0)), {Index: -1}, {Index: 7, Time: -1}} {
		if e := v.Apply(x); e != api.ErrArg {
			t.Error(x, e)
		}
	}
	if v.Catalog() != nil || v.Copy() != nil || v.Blocks() != 0 {
		t.Error("not nothing")
	}
	for _, n := range ids(5) {
		row, is := v.Doc(n, 1)
		more, also := v.Doc(1, n)
		if is || also || !sameRow(row, Row{}) || !sameRow(more, Row{}) || len(v.Docs(n)) != 0 || len(v.History(n)) != 0 || v.Next(n) != 0 {
			t.Error(n)
		}
	}
}

func TestNew(t *testing.T) {
	if New() == nil || New() == New() || New().Catalog() == nil {
		t.Fatal("not a new one")
	}
	b := newBoth()
	same(t, b.v, b.l)
	c := b.copy()
	b.must(t, made(1, "a"), rev(1, 1, 0))
	same(t, b.v, b.l)
	same(t, c.v, c.l)
	c.must(t, made(1, "c"))
	same(t, b.v, b.l)
	same(t, c.v, c.l)
}

// Scripts that are drawn, over several copies, each answer held against the log's.
func TestScripts(t *testing.T) {
	for seed := range 200 {
		r := rand.New(rand.NewSource(int64(seed)))
		list := []both{newBoth()}
		for range 10 + r.Intn(60) {
			b := list[r.Intn(len(list))]
			b.do(t, drawnBlock(r, b)...)
			if r.Intn(15) == 0 && len(list) < 4 {
				list = append(list, b.copy())
			}
		}
		for _, b := range list {
			same(t, b.v, b.l)
			less := New()
			for _, x := range bare(t, b.l.taken) {
				if e := less.Apply(x); e != api.OK {
					t.Fatal(seed, e)
				}
			}
			sameViews(t, b.v, less)
		}
	}
}

// drawnBlock is entries for the next block, each of which is most often taken behind those ahead of it.
func drawnBlock(r *rand.Rand, b both) []api.Entry {
	var list []api.Entry
	now := b.v
	for range 1 + r.Intn(10) {
		more := append(list[:len(list):len(list)], drawn(r, now, b.v.Blocks(), len(list)))
		then := b.v.Copy()
		if then.Apply(b.next(more...)) == api.OK {
			list, now = more, then
		} else if r.Intn(30) == 0 {
			return more
		}
	}
	return list
}

// drawn is an entry for a place of a block behind all that views have, right as often as it happens to be.
func drawn(r *rand.Rand, v *Views, index, i int) api.Entry {
	tables := len(v.Catalog().All())
	table := 1 + r.Intn(tables+1)
	doc := 1 + r.Intn(v.Next(table)+1)
	version := r.Intn(4)
	if x, is := v.Doc(table, doc); is && r.Intn(4) > 0 {
		version = x.Version + 1
	}
	switch r.Intn(16) {
	case 0, 1:
		return made(tables+1, fmt.Sprint(r.Intn(9)))
	case 2:
		return dropped(table)
	case 3:
		return indexed(table, fmt.Sprint(r.Intn(5)))
	case 4:
		return said("x")
	case 5, 6:
		return deleted(table, doc, version)
	case 7, 8:
		return redacted(r.Intn(index+1), r.Intn(6))
	case 9:
		return redacted(index, r.Intn(i+1))
	case 10:
		return hidden(table, doc, version)
	case 11, 12, 13:
		return rev(table, max(v.Next(table), 1), 0)
	}
	return rev(table, doc, version)
}
