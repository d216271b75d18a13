package block

import "scrivener/api"

const (
	maxPlace  = 1 << 31 // of an Index, a Version and an Address
	maxNumber = 1 << 53 // of a Time and a Txn, and of all numbers among a block's bytes
)

// span is the numbers from one to another, both among them. Its zero value has 0 alone, as a field that is not named.
type span struct{ least, most int }

func (s span) has(n int) bool { return s.least <= n && n <= s.most }

// shape is what the fields of an entry of some Kind may have, beside Gone, Data and DataHash.
type shape struct {
	text    span // of the length
	table   span
	doc     span
	version span
	at      span // of both numbers
}

// shapeOf is the shape of a Kind; false, if it is none.
func shapeOf(kind int) (shape, bool) {
	table, doc, name := span{1, api.MaxTables}, span{1, api.MaxDocs}, span{1, api.MaxName}
	switch kind {
	case api.EntryStatement:
		return shape{text: span{1, api.MaxText}}, true
	case api.EntryRevision:
		return shape{table: table, doc: doc, version: span{0, maxPlace}}, true
	case api.EntryDelete:
		return shape{table: table, doc: doc, version: span{1, maxPlace}}, true
	case api.EntryRedact:
		return shape{at: span{0, maxPlace}}, true
	case api.EntryTable, api.EntryIndex:
		return shape{table: table, text: name}, true
	case api.EntryDrop:
		return shape{table: table}, true
	}
	return shape{}, false
}

func (s shape) fits(e api.Entry) bool {
	return s.text.has(len(e.Text)) && s.table.has(e.Table) && s.doc.has(e.Doc) && s.version.has(e.Version) && s.at.has(e.At.Block) && s.at.has(e.At.Entry)
}

// isEntry tells whether e is one, whatever the Data and the DataHash of a Revision are that it still has.
func isEntry(e api.Entry) bool {
	s, is := shapeOf(e.Kind)
	if !is || !s.fits(e) {
		return false
	}
	if e.Kind != api.EntryRevision {
		return !e.Gone && isNothing(e.Data) && e.DataHash == api.Hash{}
	}
	return !e.Gone || isNothing(e.Data)
}

// isNothing tells whether v is the zero value. A list without an element is like none.
func isNothing(v api.Value) bool {
	return v.Kind == 0 && v.Int == 0 && v.Scale == 0 && v.Text == "" && len(v.Names) == 0 && len(v.Kids) == 0
}

// isHead tells whether b can be a block that has so many entries, whatever these are.
func isHead(b api.Block, count int) bool {
	index, number, entries := span{0, maxPlace}, span{0, maxNumber}, span{1, api.MaxEnts}
	return index.has(b.Index) && number.has(b.Time) && number.has(b.Txn) && entries.has(count)
}

// copyOf is a block in new memory.
func copyOf(b api.Block) api.Block {
	b.Entries = append([]api.Entry(nil), b.Entries...)
	for i, e := range b.Entries {
		b.Entries[i].Data = copyOfValue(e.Data)
	}
	return b
}

func copyOfValue(v api.Value) api.Value {
	v.Names = append([]string(nil), v.Names...)
	v.Kids = append([]api.Value(nil), v.Kids...)
	for i, kid := range v.Kids {
		v.Kids[i] = copyOfValue(kid)
	}
	return v
}
