package journal

import (
	"bytes"
	"slices"
	"strings"

	"scrivener/api"
	"scrivener/block"
	"scrivener/codec"
	"scrivener/digest"
	"scrivener/disk"
	"scrivener/frame"
)

// opening is what a disk has of a journal, and what is to be mended there.
type opening struct {
	journal *Journal
	bare    []api.Block // without Data, each Revision Gone
	whole   int         // how many bytes the whole records have
	torn    bool        // something stands behind them
	rests   []rest      // of each block in whose data file something stands that is Gone
}

func newOpening(d *disk.Disk) *opening {
	return &opening{journal: &Journal{disk: d, gone: map[api.Address]struct{}{}}}
}

// read reads all, and changes nothing.
func (o *opening) read() api.Errno {
	// A file that is not there has no bytes; and what Scan errs at stands behind the last whole record.
	file, _ := o.journal.disk.Read(journalName)
	records, whole, _ := frame.Scan(file)
	o.whole, o.torn = whole, whole < len(file)
	for _, record := range records {
		if e := o.readBlock(record); e != api.OK {
			return e
		}
	}
	for index := range o.bare {
		if e := o.readData(index); e != api.OK {
			return e
		}
	}
	return api.OK
}

func (o *opening) readBlock(record []byte) api.Errno {
	j := o.journal
	b, e := block.Decode(record)
	switch {
	case e != api.OK:
		return e
	case b.Index != j.Size() || slices.ContainsFunc(b.Entries, isWithData):
		return api.ErrForm
	case b.Prev != j.Last():
		return api.ErrDigest
	case b.Time < j.time:
		return api.ErrForm
	}
	// What was Decoded was checked, so there is no error.
	hash, _ := block.Hash(b)
	j.add(kept{bare: record}, hash, b.Time)
	o.bare = append(o.bare, b)
	o.redact(b)
	return api.OK
}

func isWithData(e api.Entry) bool { return e.Kind == api.EntryRevision && !e.Gone }

// redact notes what b's EntryRedacts name. Blocks that come behind b are not looked at: what names nothing when it comes stays
// nothing, as it does in a journal that was not opened since.
func (o *opening) redact(b api.Block) {
	for _, e := range b.Entries {
		if e.Kind == api.EntryRedact && o.isRevision(e.At) {
			o.journal.gone[e.At] = struct{}{}
		}
	}
}

func (o *opening) isRevision(a api.Address) bool {
	if a.Block >= len(o.bare) || a.Entry >= len(o.bare[a.Block].Entries) {
		return false
	}
	return o.bare[a.Block].Entries[a.Entry].Kind == api.EntryRevision
}

// readData takes the Data of a block's Revisions that are not Gone, and notes whether some stand beside them that are.
func (o *opening) readData(index int) api.Errno {
	file, e := o.journal.disk.Read(dataName(index))
	parts, readable := partsOf(file)
	unknown := e == api.OK && !readable
	k, stale := &o.journal.blocks[index], false
	for place, entry := range o.bare[index].Entries {
		if entry.Kind != api.EntryRevision {
			continue
		}
		at := slices.IndexFunc(parts, func(p part) bool { return p.place == place })
		if o.journal.Gone(api.Address{Block: index, Entry: place}) {
			// A file that can't be read may hold anything, so it counts as holding this.
			stale = stale || at >= 0 || unknown
			continue
		}
		if at < 0 {
			return api.ErrForm
		}
		if e := checkData(parts[at].bytes, entry.DataHash); e != api.OK {
			return e
		}
		// A copy, so that nothing is kept beside it that goes later, or that nobody asks for.
		k.data = append(k.data, part{place, bytes.Clone(parts[at].bytes)})
	}
	if stale {
		o.rests = append(o.rests, rest{index, k.data})
	}
	return api.OK
}

// checkData tells whether bytes are those of Data that have a digest.
func checkData(b []byte, hash api.Hash) api.Errno {
	if _, e := codec.Decode(b); e != api.OK {
		return api.ErrForm
	}
	// A value has one row of bytes alone, so its Hash is the Leaf of these.
	if digest.Leaf(b) != hash {
		return api.ErrDigest
	}
	return api.OK
}

// mend makes of the disk what it would be if nothing had been cut off in its midst.
func (o *opening) mend() api.Errno {
	d := o.journal.disk
	s := steps{disk: d}
	if o.torn {
		s.truncate(journalName, o.whole)
	}
	// What is told lasts; and a record that says what is Gone may not go behind it.
	if o.torn || lasting(d, journalName) < o.whole {
		s.sync(journalName)
	}
	for _, name := range d.List() {
		if o.isLeftOver(name) {
			s.remove(name)
		}
	}
	for _, r := range o.rests {
		s.shadow(r)
		s.replace(r)
	}
	return s.err
}

// isLeftOver tells whether a file is of an Append or an Open that came to no end.
func (o *opening) isLeftOver(name string) bool {
	index, is := indexOf(name)
	return strings.HasSuffix(name, onTheWay) || is && index >= len(o.bare)
}

// lasting is how many bytes of a file any Crash leaves: a disk does not say it, but a copy can be crashed.
func lasting(d *disk.Disk, name string) int {
	crashed := d.Copy()
	crashed.Crash(0)
	left, _ := crashed.Read(name)
	return len(left)
}
