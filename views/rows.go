package views

import (
	"strings"

	"scrivener/api"
	"scrivener/catalog"
)

// A place is what a document is found by: at it stands the Address of its last Row.
type place struct{ table, doc int }

// A kept Row. It is never changed, but another one takes its place, so that Views and their Copies may share it.
type kept struct {
	Row
	before api.Address // of the document's Row of the Version below, if there is one
	named  bool        // by a redaction
}

// newKept is what a Revision or a Delete makes.
func newKept(e api.Entry, at, before api.Address, time int) *kept {
	return &kept{
		Row: Row{
			Table:   e.Table,
			Doc:     e.Doc,
			Version: e.Version,
			Data:    copyOf(e.Data),
			Gone:    e.Gone,
			Deleted: e.Kind == api.EntryDelete,
			Block:   at.Block,
			Entry:   at.Entry,
			Time:    time,
		},
		before: before,
	}
}

// redacted is the Row behind a redaction of it.
func (k *kept) redacted() *kept {
	gone := *k
	gone.Data = api.Value{}
	gone.Gone = true
	gone.named = true
	return &gone
}

// tell is the Row in new memory.
func (k *kept) tell() Row {
	r := k.Row
	r.Data = copyOf(r.Data)
	return r
}

// copyOf is a value in new memory.
func copyOf(v api.Value) api.Value {
	v.Text = strings.Clone(v.Text)
	names, kids := v.Names, v.Kids
	v.Names, v.Kids = nil, nil
	for _, name := range names {
		v.Names = append(v.Names, strings.Clone(name))
	}
	for _, kid := range kids {
		v.Kids = append(v.Kids, copyOf(kid))
	}
	return v
}

// isLive tells whether a table is there and not dropped.
func isLive(c *catalog.Catalog, table int) bool {
	t, e := c.Table(table)
	return e == api.OK && !t.Dropped
}

// current is the last Row of a document that is; nil of another one.
func (v *Views) current(p place) *kept {
	at, has := v.docs[p]
	if !has {
		return nil
	}
	k := v.rows[at]
	if k.Deleted || k.Gone {
		return nil
	}
	return k
}

// revisions is all Rows of a document that there is, by Versions.
func (v *Views) revisions(p place) []Row {
	k := v.rows[v.docs[p]]
	out := make([]Row, k.Version+1)
	for ; k.Version > 0; k = v.rows[k.before] {
		out[k.Version] = k.tell()
	}
	out[0] = k.tell()
	return out
}
