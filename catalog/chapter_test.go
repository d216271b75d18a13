package catalog

import (
	"math"
	"slices"
	"strings"
	"testing"

	"scrivener/api"
)

// The chapter written out a second time: nothing is kept but the entries that were taken, and each answer goes through them from the first one on.

type log struct{ taken []api.Entry }

// A list is P14.2's All.
type list []Table

func (l *log) all() list {
	var out list
	for _, e := range l.taken {
		switch e.Kind {
		case api.EntryTable:
			out = append(out, Table{ID: e.Table, Name: e.Text})
		case api.EntryDrop:
			out[e.Table-1].Dropped = true
			out[e.Table-1].Indexes = nil
		case api.EntryIndex:
			out[e.Table-1].Indexes = append(out[e.Table-1].Indexes, Index{e.Text})
		}
	}
	return out
}

func (all list) find(name string) (Table, api.Errno) {
	for _, t := range all {
		if !t.Dropped && t.Name == name {
			return t, api.OK
		}
	}
	return Table{}, api.ErrName
}

func (all list) table(id int) (Table, api.Errno) {
	for _, t := range all {
		if t.ID == id {
			return t, api.OK
		}
	}
	return Table{}, api.ErrNone
}

func (all list) has(id int, field string) bool {
	t, e := all.table(id)
	return e == api.OK && !t.Dropped && slices.Contains(t.Indexes, Index{field})
}

// refuses is P14.1's first error that applies.
func (all list) refuses(e api.Entry) api.Errno {
	t, none := all.table(e.Table)
	_, free := all.find(e.Text)
	bad := len(e.Text) == 0 || len(e.Text) > 40
	switch {
	case e.Kind == api.EntryTable && len(all) == 64:
		return api.ErrLimit
	case e.Kind == api.EntryTable && (e.Table != len(all)+1 || bad):
		return api.ErrForm
	case e.Kind == api.EntryTable && free == api.OK:
		return api.ErrHas
	case (e.Kind == api.EntryDrop || e.Kind == api.EntryIndex) && (none != api.OK || t.Dropped):
		return api.ErrNone
	case e.Kind == api.EntryIndex && bad:
		return api.ErrForm
	case e.Kind == api.EntryIndex && all.has(e.Table, e.Text):
		return api.ErrHas
	case e.Kind == api.EntryIndex && len(t.Indexes) == 16:
		return api.ErrLimit
	}
	return api.OK
}

func (l *log) apply(e api.Entry) api.Errno {
	err := l.all().refuses(e)
	if err == api.OK && (e.Kind == api.EntryTable || e.Kind == api.EntryDrop || e.Kind == api.EntryIndex) {
		l.taken = append(l.taken, api.Entry{Kind: e.Kind, Table: e.Table, Text: strings.Clone(e.Text)})
	}
	return err
}

func sameTable(a, b Table) bool {
	return a.ID == b.ID && a.Name == b.Name && a.Dropped == b.Dropped && slices.Equal(a.Indexes, b.Indexes)
}

// names are all texts that stand in a log, and some that may not.
func (l *log) names() []string {
	out := []string{"", "a", "\x00", "none", strings.Repeat("n", 40), strings.Repeat("n", 41), strings.Repeat("n", 5000)}
	for _, e := range l.taken {
		out = append(out, e.Text, e.Text+"x", e.Text[:len(e.Text)/2])
	}
	slices.Sort(out)
	return slices.Compact(out)
}

// ids are numbers of tables that are, and of some that are not.
func ids() []int {
	out := []int{math.MinInt, math.MinInt + 1, -1 << 32, -65, -64, -63, -1, 65, 66, 127, 128, 129, 1 << 32, 1<<32 + 1, math.MaxInt - 1, math.MaxInt}
	for i := range 65 {
		out = append(out, i)
	}
	return out
}

// same holds all that a catalog answers against the log, and looks at what it keeps.
func same(t *testing.T, c *Catalog, l *log) {
	t.Helper()
	all := l.all()
	if got := c.All(); !slices.EqualFunc(got, all, sameTable) {
		t.Fatalf("All: %v, not %v", got, all)
	}
	names := l.names()
	for _, name := range names {
		want, err := all.find(name)
		if got, e := c.Find(name); e != err || !sameTable(got, want) {
			t.Fatalf("Find(%q): %v %v, not %v %v", name, got, e, want, err)
		}
	}
	for _, id := range ids() {
		want, err := all.table(id)
		if got, e := c.Table(id); e != err || !sameTable(got, want) {
			t.Fatalf("Table(%d): %v %v, not %v %v", id, got, e, want, err)
		}
		for _, field := range names {
			if want := all.has(id, field); c.Has(id, field) != want {
				t.Fatalf("Has(%d, %q): not %v", id, field, want)
			}
		}
	}
	sound(t, c)
}

// sound looks at what is kept: no more than the answers need, and nothing of what is dropped but its name.
func sound(t *testing.T, c *Catalog) {
	t.Helper()
	fields := 0
	for i, x := range c.tables {
		fields += len(x.fields)
		for _, field := range x.fields {
			if _, has := c.indexes[place{i + 1, field}]; !has {
				t.Fatalf("index %q of %d is not found", field, i+1)
			}
		}
		if c.dropped>>i&1 == 1 && x.fields != nil {
			t.Fatalf("%d is dropped, and keeps %v", i+1, x.fields)
		}
	}
	if fields != len(c.indexes) {
		t.Fatalf("%d indexes, %d are found", fields, len(c.indexes))
	}
	if len(c.tables) < 64 && c.dropped>>len(c.tables) != 0 {
		t.Fatalf("%d tables, dropped %b", len(c.tables), c.dropped)
	}
}

// both does one thing to a catalog and to a log.
type both struct {
	c *Catalog
	l *log
}

func newBoth() both { return both{New(), &log{}} }

func (b both) copy() both { return both{b.c.Copy(), &log{slices.Clone(b.l.taken)}} }

func (b both) apply(t *testing.T, e api.Entry) api.Errno {
	t.Helper()
	want := b.l.apply(e)
	if got := b.c.Apply(e); got != want {
		t.Fatalf("Apply(%d, table %d, %q): %v, not %v", e.Kind, e.Table, e.Text, got, want)
	}
	return want
}

// must is apply of what is taken.
func (b both) must(t *testing.T, list ...api.Entry) {
	t.Helper()
	for _, e := range list {
		if err := b.apply(t, e); err != api.OK {
			t.Fatalf("Apply(%d, table %d, %q): %v", e.Kind, e.Table, e.Text, err)
		}
	}
}

func made(id int, name string) api.Entry {
	return api.Entry{Kind: api.EntryTable, Table: id, Text: name}
}

func dropped(id int) api.Entry { return api.Entry{Kind: api.EntryDrop, Table: id} }

func indexed(id int, field string) api.Entry {
	return api.Entry{Kind: api.EntryIndex, Table: id, Text: field}
}
