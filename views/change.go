package views

import (
	"maps"

	"scrivener/api"
	"scrivener/catalog"
)

// change is what a block makes of views. It lies beside them until all of the block is taken, so that an error leaves them as
// they were.
type change struct {
	views   *Views
	block   api.Block
	catalog *catalog.Catalog // the views' own, with what the block made of it so far
	docs    map[place]api.Address
	rows    map[api.Address]*kept
	counts  map[int]int
}

// changeBy is what a block that was checked would change, or the error of its first entry that can't be.
func (v *Views) changeBy(b api.Block) (*change, api.Errno) {
	c := &change{
		views:   v,
		block:   b,
		catalog: v.Catalog().Copy(),
		docs:    map[place]api.Address{},
		rows:    map[api.Address]*kept{},
		counts:  map[int]int{},
	}
	for i := range b.Entries {
		if e := c.add(i); e != api.OK {
			return nil, e
		}
	}
	return c, api.OK
}

// add does what an entry says.
func (c *change) add(i int) api.Errno {
	e := c.block.Entries[i]
	if err := c.catalog.Apply(e); err != api.OK {
		return err
	}
	done := true
	switch e.Kind {
	case api.EntryRevision, api.EntryDelete:
		done = c.revise(e, api.Address{Block: c.block.Index, Entry: i})
	case api.EntryRedact:
		done = c.redact(e.At)
	}
	if !done {
		return api.ErrForm
	}
	return api.OK
}

// revise lays the Row of a Revision or a Delete; false, if it can't be.
func (c *change) revise(e api.Entry, at api.Address) bool {
	if !isLive(c.catalog, e.Table) {
		return false
	}
	if e.Version == 0 {
		return c.begin(e, at)
	}
	return c.goOn(e, at)
}

// begin lays the first Row of a document.
func (c *change) begin(e api.Entry, at api.Address) bool {
	count, _ := found(c.counts, c.views.counts, e.Table)
	if e.Doc != count+1 {
		return false
	}
	c.counts[e.Table] = e.Doc
	c.lay(e, at, api.Address{})
	return true
}

// goOn lays a Row behind the last one of its document.
func (c *change) goOn(e api.Entry, at api.Address) bool {
	before, has := found(c.docs, c.views.docs, place{e.Table, e.Doc})
	if !has {
		return false
	}
	last, _ := found(c.rows, c.views.rows, before)
	if last.Deleted || e.Version != last.Version+1 {
		return false
	}
	c.lay(e, at, before)
	return true
}

func (c *change) lay(e api.Entry, at, before api.Address) {
	c.docs[place{e.Table, e.Doc}] = at
	c.rows[at] = newKept(e, at, before, c.block.Time)
}

// redact takes the Data of the Revision at a; false, if it can't be.
func (c *change) redact(a api.Address) bool {
	k, has := found(c.rows, c.views.rows, a)
	if !has || k.Deleted || k.named {
		return false
	}
	c.rows[a] = k.redacted()
	return true
}

// take makes a change.
func (v *Views) take(c *change) {
	// The Catalog that was told stays the views' own: what its Copy took is done to it anew.
	for _, e := range c.block.Entries {
		v.Catalog().Apply(e)
	}
	v.docs = joined(v.docs, c.docs)
	v.rows = joined(v.rows, c.rows)
	v.counts = joined(v.counts, c.counts)
	v.blocks++
}

// found is what one map has under a key, or, if that has nothing there, another one.
func found[K comparable, V any](one, other map[K]V, key K) (V, bool) {
	if x, has := one[key]; has {
		return x, true
	}
	x, has := other[key]
	return x, has
}

// joined is a map with all that another one has, which counts where both have something.
func joined[K comparable, V any](m, more map[K]V) map[K]V {
	if m == nil {
		return more
	}
	maps.Copy(m, more)
	return m
}
