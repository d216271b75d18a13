package journal

import (
	"slices"

	"scrivener/api"
	"scrivener/block"
	"scrivener/codec"
)

// kept is a block as it lies on the disk: without Data, and these beside it, so that they can go while it stays.
type kept struct {
	bare []byte // Encoded without data
	data []part // of each Revision that is not Gone, by places
}

// part is what a data file has of one entry.
type part struct {
	place int
	bytes []byte // those of Data
}

// block is the block in new memory, with the Data that are left.
func (k kept) block() api.Block {
	// Both were read once, or checked and written, when the block was taken, so there is no error.
	b, _ := block.Decode(k.bare)
	for _, p := range k.data {
		e := &b.Entries[p.place]
		e.Data, _ = codec.Decode(p.bytes)
		e.Gone = false
	}
	return b
}

// has tells whether there are Data of the entry at a place: whether it is a Revision that is not Gone.
func (k kept) has(place int) bool {
	return slices.ContainsFunc(k.data, func(p part) bool { return p.place == place })
}

// dataOf is the Data of a block that was checked, and in which no Revision is Gone.
func dataOf(b api.Block) []part {
	var data []part
	for place, e := range b.Entries {
		if e.Kind == api.EntryRevision {
			bytes, _ := codec.Encode(e.Data)
			data = append(data, part{place, bytes})
		}
	}
	return data
}
