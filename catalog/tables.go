package catalog

import (
	"slices"
	"strings"

	"scrivener/api"
)

const maxIndexes = 16 // of one table

// A table that is kept. Its number is its place, and whether it is dropped a digit of the catalog.
type table struct {
	name   string
	fields []string // its indexes, the oldest first
}

// A place is what an index is found by.
type place struct {
	table int
	field string
}

// isName tells whether a text can be the name of a table or of a field.
func isName(text string) bool { return text != "" && len(text) <= api.MaxName }

// there tells whether there is a table of that number, dropped or not.
func (c *Catalog) there(id int) bool { return c != nil && id >= 1 && id <= len(c.tables) }

// gone tells whether a table that is there is dropped.
func (c *Catalog) gone(id int) bool { return c.dropped>>(id-1)&1 == 1 }

// live tells whether there is a table of that number that is not dropped.
func (c *Catalog) live(id int) bool { return c.there(id) && !c.gone(id) }

// named is the number of the table that has a name and is not dropped, or 0.
func (c *Catalog) named(name string) int {
	if c == nil {
		return 0
	}
	for i, t := range c.tables {
		if t.name == name && !c.gone(i+1) {
			return i + 1
		}
	}
	return 0
}

func (c *Catalog) add(id int, name string) api.Errno {
	switch {
	case len(c.tables) >= api.MaxTables:
		return api.ErrLimit
	case id != len(c.tables)+1 || !isName(name):
		return api.ErrForm
	case c.named(name) != 0:
		return api.ErrHas
	}
	c.tables = append(c.tables, table{name: strings.Clone(name)})
	return api.OK
}

func (c *Catalog) drop(id int) api.Errno {
	if !c.live(id) {
		return api.ErrNone
	}
	t := &c.tables[id-1]
	for _, field := range t.fields {
		delete(c.indexes, place{id, field})
	}
	t.fields = nil
	c.dropped |= 1 << (id - 1)
	return api.OK
}

func (c *Catalog) index(id int, field string) api.Errno {
	if !c.live(id) {
		return api.ErrNone
	}
	t := &c.tables[id-1]
	switch {
	case !isName(field):
		return api.ErrForm
	case c.Has(id, field):
		return api.ErrHas
	case len(t.fields) >= maxIndexes:
		return api.ErrLimit
	}
	if c.indexes == nil {
		c.indexes = map[place]struct{}{}
	}
	field = strings.Clone(field)
	c.indexes[place{id, field}] = struct{}{}
	t.fields = append(t.fields, field)
	return api.OK
}

// tell is a table that is there, in new memory.
func (c *Catalog) tell(id int) Table {
	t := c.tables[id-1]
	out := Table{ID: id, Name: strings.Clone(t.name), Dropped: c.gone(id)}
	for _, field := range t.fields {
		out.Indexes = append(out.Indexes, Index{strings.Clone(field)})
	}
	return out
}

// cloned is tables that share no list with those handed in.
func cloned(tables []table) []table {
	out := slices.Clone(tables)
	for i := range out {
		out[i].fields = slices.Clone(out[i].fields)
	}
	return out
}
