package block

import (
	"scrivener/api"
	"scrivener/codec"
	"scrivener/digest"
	"scrivener/merkle"
	"scrivener/octet"
)

// What stands behind a Revision's own bytes.
const (
	dataGone  = 0x00
	dataThere = 0x01
)

// packed is an entry as bytes.
type packed struct {
	own  []byte // the entry's bytes: Data are not among them, so that their digest stays when Data go
	data []byte // those of Data, if it has any
	kind int
}

// pack is the entries of a block as bytes, or Check's error of it.
func pack(b api.Block) ([]packed, api.Errno) {
	if !isHead(b, len(b.Entries)) {
		return nil, api.ErrArg
	}
	var out []packed
	for _, e := range b.Entries {
		p, err := packEntry(e)
		if err != api.OK {
			return nil, err
		}
		out = append(out, p)
	}
	if len(blockBytes(b, out, true)) > api.MaxBlock {
		return nil, api.ErrLong
	}
	return out, api.OK
}

// packEntry is an entry as bytes, or Check's error of it.
func packEntry(e api.Entry) (packed, api.Errno) {
	if !isEntry(e) {
		return packed{}, api.ErrForm
	}
	p := packed{own: entryBytes(e), kind: e.Kind}
	if e.Kind != api.EntryRevision || e.Gone {
		return p, api.OK
	}
	data, err := codec.Encode(e.Data)
	if err != api.OK {
		return packed{}, err
	}
	if digest.Leaf(data) != e.DataHash {
		return packed{}, api.ErrDigest
	}
	p.data = data
	return p, api.OK
}

func (p packed) hash() api.Hash { return digest.Leaf(p.own) }

// entriesHash is the entries' digest.
func entriesHash(entries []packed) api.Hash {
	tree := merkle.New()
	for _, p := range entries {
		tree.Add(p.hash())
	}
	// It is asked of all its leaves, so there is no error.
	root, _ := tree.Root(tree.Size())
	return digest.Chain(root, octet.Uvarint(uint64(len(entries))))
}

// headBytes is what stands ahead of the entries, but for how many these are.
func headBytes(b api.Block) []byte {
	out := appendNumbers(nil, b.Index, b.Time, b.Txn)
	return append(out, b.Prev[:]...)
}

func entryBytes(e api.Entry) []byte {
	out := appendNumbers([]byte{byte(e.Kind)}, e.Table, e.Doc, e.Version, len(e.Text))
	out = append(out, e.Text...)
	out = appendNumbers(out, e.At.Block, e.At.Entry)
	if e.Kind == api.EntryRevision {
		out = append(out, e.DataHash[:]...)
	}
	return out
}

// blockBytes is all of a block, with the data of its revisions or without.
func blockBytes(b api.Block, entries []packed, data bool) []byte {
	out := appendNumbers(headBytes(b), len(entries))
	for _, p := range entries {
		out = append(out, p.own...)
		if p.kind == api.EntryRevision {
			out = p.appendData(out, data)
		}
	}
	return out
}

// appendData puts behind b whether a Revision has data here, and these.
func (p packed) appendData(b []byte, data bool) []byte {
	// No value has no bytes: without any the Revision is Gone.
	if !data || len(p.data) == 0 {
		return append(b, dataGone)
	}
	b = appendNumbers(append(b, dataThere), len(p.data))
	return append(b, p.data...)
}

// appendNumbers puts Uvarints behind b. A number below 0, which Head alone is asked of, counts as 0.
func appendNumbers(b []byte, numbers ...int) []byte {
	for _, n := range numbers {
		b = append(b, octet.Uvarint(uint64(max(n, 0)))...)
	}
	return b
}
