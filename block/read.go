package block

import (
	"cmp"

	"scrivener/api"
	"scrivener/codec"
	"scrivener/octet"
)

// reader goes through bytes. Its first error stays: behind it nothing more is taken.
type reader struct {
	left []byte
	err  api.Errno
}

func (r *reader) fail(e api.Errno) { r.err = cmp.Or(r.err, e) }

// take is the next n bytes, as a piece of those that are read.
func (r *reader) take(n int) []byte {
	if n > len(r.left) {
		r.fail(api.ErrShort)
	}
	if r.err != api.OK {
		return nil
	}
	piece := r.left[:n]
	r.left = r.left[n:]
	return piece
}

func (r *reader) next() int {
	b := r.take(1)
	if len(b) == 0 {
		return 0
	}
	return int(b[0])
}

// number is a Uvarint.
func (r *reader) number() int {
	u, n, e := octet.ReadUvarint(r.left)
	r.fail(e)
	// Held against the limit ahead of the conversion: not every uint64 is an int.
	if u > maxNumber {
		r.fail(api.ErrForm)
	}
	if r.err != api.OK {
		return 0
	}
	r.left = r.left[n:]
	return int(u)
}

func (r *reader) text() string { return string(r.take(r.number())) }

func (r *reader) hash() api.Hash {
	var h api.Hash
	copy(h[:], r.take(len(h)))
	return h
}

// block is the block that stands next, and Check's error of it, but for how long it is. A block whose bytes are too many is
// never answered, and could take many times as much memory: its entries are not kept, so each is checked as it is read.
func (r *reader) block(keep bool) (api.Block, api.Errno) {
	var b api.Block
	b.Index = r.number()
	b.Time = r.number()
	b.Txn = r.number()
	b.Prev = r.hash()
	count := r.number()
	var refused api.Errno
	if !isHead(b, count) {
		refused = api.ErrArg
	}
	for range count {
		e := r.entry()
		if r.err != api.OK {
			return api.Block{}, r.err
		}
		if refused == api.OK {
			_, refused = packEntry(e)
		}
		if keep {
			b.Entries = append(b.Entries, e)
		}
	}
	return b, refused
}

// entry is what stands next as an entry, be it one or not.
func (r *reader) entry() api.Entry {
	var e api.Entry
	e.Kind = r.next()
	e.Table = r.number()
	e.Doc = r.number()
	e.Version = r.number()
	e.Text = r.text()
	e.At.Block = r.number()
	e.At.Entry = r.number()
	if e.Kind == api.EntryRevision {
		e.DataHash = r.hash()
		e.Data, e.Gone = r.data()
	}
	return e
}

// data is a Revision's Data, or that it is Gone.
func (r *reader) data() (data api.Value, gone bool) {
	switch r.next() {
	case dataGone:
		return api.Value{}, true
	case dataThere:
		v, e := codec.Decode(r.take(r.number()))
		// Whatever is wrong within: their length said that they end here.
		if e != api.OK {
			r.fail(api.ErrForm)
		}
		return v, false
	}
	r.fail(api.ErrForm)
	return api.Value{}, false
}
