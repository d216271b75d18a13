package index

import (
	"maps"

	"scrivener/api"
	"scrivener/catalog"
	"scrivener/order"
	"scrivener/tree"
	"scrivener/value"
	"scrivener/views"
)

// tree is an index; nil, if there is none.
func (s *Set) tree(table int, field string) *tree.Tree {
	if s == nil {
		return nil
	}
	return s.trees[place{table, field}]
}

// hold gives s the indexes of a catalog and no others. Those that are new have v's documents.
func (s *Set) hold(c *catalog.Catalog, v *views.Views) {
	maps.DeleteFunc(s.trees, func(p place, _ *tree.Tree) bool { return !c.Has(p.table, p.field) })
	for _, t := range c.All() {
		if fields := s.missing(t); len(fields) > 0 {
			s.grow(t.ID, fields, v.Docs(t.ID))
		}
	}
}

// missing is the fields on which a table has an index, and s has none.
func (s *Set) missing(t catalog.Table) []string {
	var fields []string
	for _, x := range t.Indexes {
		if s.tree(t.ID, x.Field) == nil {
			fields = append(fields, x.Field)
		}
	}
	return fields
}

// grow gives s indexes of a table, with the documents that these Rows are.
func (s *Set) grow(table int, fields []string, rows []views.Row) {
	if s.trees == nil {
		s.trees = map[place]*tree.Tree{}
	}
	for _, field := range fields {
		t := tree.New()
		put(t, field, rows)
		s.trees[place{table, field}] = t
	}
}

// put lays documents into the index on a field, as far as they have it.
func put(t *tree.Tree, field string, rows []views.Row) {
	for _, row := range rows {
		if k, has := key(row, field); has {
			t.Put(k, row.Doc)
		}
	}
}

// take takes documents out of the index on a field.
func take(t *tree.Tree, field string, rows []views.Row) {
	for _, row := range rows {
		if k, has := key(row, field); has {
			t.Delete(k)
		}
	}
}

// key is what stands for a document in the index on a field: its value there, then its number; false, if it is not in it.
func key(row views.Row, field string) (string, bool) {
	kid, has := value.Field(row.Data, field)
	if !has {
		return "", false
	}
	// A Kid of a value is one, so there is no error.
	k, _ := order.Key([]api.Value{kid, {Kind: api.Int, Int: row.Doc}})
	return k, true
}

// numbers is the documents under the keys not below from and below to, in their order.
func numbers(t *tree.Tree, from, to string) []int {
	var out []int
	for _, doc := range t.Range(from, to) {
		out = append(out, doc)
	}
	return out
}
