package index

import (
	"maps"
	"slices"

	"scrivener/api"
	"scrivener/catalog"
	"scrivener/views"
)

// A change is what a block makes of documents of a table.
type change struct {
	were []views.Row // what they are ahead of the block
	are  []views.Row // what they are behind it, by Doc and Data alone
}

// change makes it of the indexes of a table. What documents were goes first: they may still be under the same value.
func (s *Set) change(t catalog.Table, c change) {
	for _, x := range t.Indexes {
		one := s.tree(t.ID, x.Field)
		take(one, x.Field, c.were)
		put(one, x.Field, c.are)
	}
}

// changeBy is what a block makes of a table; v is as it is ahead of that block.
func changeBy(b api.Block, v *views.Views, table int) change {
	gone := redacted(b)
	var c change
	last := lastEntries(b, table)
	for _, doc := range slices.Sorted(maps.Keys(last)) {
		was, _ := v.Doc(table, doc)
		c.were = append(c.were, was)
		if at := (api.Address{Block: b.Index, Entry: last[doc]}); !gone.have(at) {
			c.are = append(c.are, views.Row{Doc: doc, Data: b.Entries[at.Entry].Data})
		}
	}
	// Which document a redaction of an earlier block's entry takes, only the Rows can tell.
	if len(gone) > 0 {
		for _, row := range v.Docs(table) {
			if gone.have(api.Address{Block: row.Block, Entry: row.Entry}) {
				c.were = append(c.were, row)
			}
		}
	}
	return c
}

// lastEntries is, of each document of a table that a block revises or deletes, the place of the last entry that does so. What that
// entry has as Data the document is from then on: a deletion has none, nor has a Revision that is Gone.
func lastEntries(b api.Block, table int) map[int]int {
	last := map[int]int{}
	for i, e := range b.Entries {
		if e.Table == table && (e.Kind == api.EntryRevision || e.Kind == api.EntryDelete) {
			last[e.Doc] = i
		}
	}
	return last
}

// redacted is what a block's redactions name.
func redacted(b api.Block) addresses {
	gone := addresses{}
	for _, e := range b.Entries {
		if e.Kind == api.EntryRedact {
			gone[e.At] = struct{}{}
		}
	}
	return gone
}

type addresses map[api.Address]struct{}

func (l addresses) have(a api.Address) bool {
	_, is := l[a]
	return is
}
