package journal

import (
	"maps"
	"slices"

	"scrivener/api"
	"scrivener/block"
	"scrivener/disk"
)

// change is what a block makes of a journal, and of its disk.
type change struct {
	index int
	time  int
	hash  api.Hash
	kept  kept
	gone  map[api.Address]struct{} // what it redacts
	rests []rest                   // of each block of which it redacts entries, by Indexes
}

// rest is the Data that stay of a block when others of it go.
type rest struct {
	index int
	data  []part
}

// changeBy is what b would change, if it came next, or why it can't.
func (j *Journal) changeBy(b api.Block) (change, api.Errno) {
	hash, e := block.Hash(b)
	if e != api.OK {
		return change{}, e
	}
	gone, ok := j.redactedBy(b)
	if !ok || slices.ContainsFunc(b.Entries, isGone) {
		return change{}, api.ErrArg
	}
	// What has a Hash was checked, so there is no error.
	bare, _ := block.Encode(b, false)
	return change{b.Index, b.Time, hash, kept{bare, dataOf(b)}, gone, j.restsWithout(gone)}, api.OK
}

func isGone(e api.Entry) bool { return e.Gone }

// redactedBy is what b's EntryRedacts name; false, if one of them names what can't be redacted, or what was named ahead of it.
func (j *Journal) redactedBy(b api.Block) (map[api.Address]struct{}, bool) {
	gone := map[api.Address]struct{}{}
	for _, e := range b.Entries {
		if e.Kind != api.EntryRedact {
			continue
		}
		if _, twice := gone[e.At]; twice || !j.hasData(e.At) {
			return nil, false
		}
		gone[e.At] = struct{}{}
	}
	return gone, true
}

// hasData tells whether a Revision stands at a that is not Gone.
func (j *Journal) hasData(a api.Address) bool {
	return a.Block < j.Size() && j.blocks[a.Block].has(a.Entry)
}

// restsWithout is what stays of each block of which something goes, by Indexes.
func (j *Journal) restsWithout(gone map[api.Address]struct{}) []rest {
	var indexes []int
	for a := range gone {
		indexes = append(indexes, a.Block)
	}
	slices.Sort(indexes)
	var rests []rest
	for _, index := range slices.Compact(indexes) {
		stays := rest{index: index}
		for _, p := range j.blocks[index].data {
			if _, goes := gone[api.Address{Block: index, Entry: p.place}]; !goes {
				stays.data = append(stays.data, p)
			}
		}
		rests = append(rests, stays)
	}
	return rests
}

// lay makes the change on the disk. The record comes behind all that it needs, and ahead of what can't be taken back.
func (c change) lay(d *disk.Disk) api.Errno {
	s := steps{disk: d}
	if len(c.kept.data) > 0 {
		s.write(dataName(c.index), fileOf(c.kept.data))
	}
	for _, r := range c.rests {
		s.shadow(r)
	}
	s.extend(journalName, recordOf(c.kept.bare))
	s.sync(journalName)
	for _, r := range c.rests {
		s.replace(r)
	}
	if s.err == api.ErrFull {
		return s.undo()
	}
	return s.err
}

// take makes the change in memory, once it was laid.
func (j *Journal) take(c change) {
	j.add(c.kept, c.hash, c.time)
	for _, r := range c.rests {
		j.blocks[r.index].data = r.data
	}
	maps.Copy(j.gone, c.gone)
}
