package journal

import (
	"fmt"
	"maps"
	"slices"
	"testing"

	"scrivener/api"
	"scrivener/disk"
)

// P12.4: wherever the fuse burns, and whatever a Crash keeps.

// hidden is Data of the entry at a place of a block, unlike all others.
func hidden(index, place int) api.Value { return secret(fmt.Sprintf("hidden %d/%d.", index, place)) }

// plots are the entries of journals: a number is a Revision, the others are EntryRedacts of these addresses.
func plots() [][][]api.Entry {
	r := func(index int, places ...int) []api.Entry {
		var l []api.Entry
		for place := range slices.Max(places) + 1 {
			if slices.Contains(places, place) {
				l = append(l, revision(1+place, hidden(index, place)))
			} else {
				l = append(l, statement("s"))
			}
		}
		return l
	}
	return [][][]api.Entry{
		{r(0, 0), entries(redaction(0, 0))},
		{r(0, 0, 2), entries(redaction(0, 2)), entries(redaction(0, 0))},
		{r(0, 0, 1), r(1, 0), r(2, 1, 2, 4), append(entries(redaction(2, 4), redaction(0, 0), redaction(1, 0)), revision(9, hidden(3, 3))), entries(drop(1)), append(r(5, 0), redaction(3, 3), redaction(2, 1))},
		{entries(drop(1)), entries(statement("s")), r(2, 0), r(3, 1)},
	}
}

// burnt is a disk on which a plot was appended until the fuse burnt: the blocks whose Append answered OK, and those that there
// may be in their stead; nil, if all answered OK.
func burnt(t *testing.T, plot [][]api.Entry, fuse int) (d *disk.Disk, sure, maybe []api.Block) {
	t.Helper()
	d = newDisk(t, room)
	j := opened(t, d)
	d.Fuse(fuse)
	for _, l := range plot {
		b := behind(sure, l...)
		e := j.Append(b)
		if e == api.ErrDead {
			return d, sure, chapterWith(sure, b)
		}
		if e != api.OK {
			t.Fatalf("Append: %v", e)
		}
		sure = chapterWith(sure, b)
	}
	return d, sure, nil
}

// loose is how many bytes do not last, of the file of which most do not.
func loose(d *disk.Disk) int {
	n := 0
	for _, f := range look(d) {
		n = max(n, len(f.bytes)-f.lasts)
	}
	return n
}

// recovers opens a disk, and holds against it that the blocks are these or those, and that nothing else stands in its files.
func recovers(t *testing.T, what string, d *disk.Disk, sure, maybe []api.Block) []api.Block {
	t.Helper()
	j, e := Open(d)
	if e != api.OK {
		t.Fatalf("%s: Open = %v", what, e)
	}
	blocks := sure
	if maybe != nil && j.Size() == len(maybe) {
		blocks = maybe
	}
	tells(t, what, j, blocks)
	if got, want := filesOf(d), chapterFiles(blocks); !maps.Equal(with(got, "journal", "-"), with(want, "journal", "-")) || got["journal"] != want["journal"] {
		t.Fatalf("%s: the files are %q, want %q", what, got, want)
	}
	for i, b := range blocks {
		for place, e := range b.Entries {
			if s := hidden(i, place).Kids[0].Kids[0].Text; e.Kind == api.EntryRevision && holds(d, s) == e.Gone {
				t.Fatalf("%s: a file has %q: %v", what, s, !e.Gone)
			}
		}
	}
	for _, f := range look(d) {
		if f.lasts != len(f.bytes) {
			t.Fatalf("%s: of %s only %d of %d bytes last", what, f.name, f.lasts, len(f.bytes))
		}
	}
	return blocks
}

// follows tells whether a journal that was recovered goes on.
func follows(t *testing.T, what string, d *disk.Disk, blocks []api.Block) {
	t.Helper()
	j := opened(t, d)
	b := behind(blocks, statement("on"), revision(3, hidden(len(blocks), 1)))
	for i := range blocks {
		for place, e := range blocks[i].Entries {
			if e.Kind == api.EntryRevision && !e.Gone {
				b.Entries = append(b.Entries, redaction(i, place))
			}
		}
	}
	if e := j.Append(b); e != api.OK {
		t.Fatalf("%s: Append = %v", what, e)
	}
	d.Crash(0)
	recovers(t, what+", and on", d, chapterWith(blocks, b), nil)
}

func TestCrashesWithinAppend(t *testing.T) {
	for n, plot := range plots() {
		both := map[int]int{}
		for fuse := 0; ; fuse++ {
			d, sure, maybe := burnt(t, plot, fuse)
			for draw := range loose(d) + 1 {
				what := fmt.Sprintf("plot %d, fuse %d, draw %d", n, fuse, draw)
				c := d.Copy()
				c.Crash(draw)
				blocks := recovers(t, what, c, sure, maybe)
				both[len(blocks)-len(sure)]++
				if draw%16 == 0 {
					follows(t, what, c, blocks)
				}
			}
			if maybe == nil {
				break
			}
		}
		if both[0] == 0 || both[1] == 0 {
			t.Errorf("plot %d: %v", n, both)
		}
	}
}

// The fuse burns within an Open, too, be it behind a Crash or not; and a Crash behind that.
func TestCrashesWithinOpen(t *testing.T) {
	for n, plot := range plots() {
		for fuse := 0; ; fuse++ {
			d, sure, maybe := burnt(t, plot, fuse)
			u := loose(d)
			for _, draw := range slices.Compact([]int{-1, 0, u / 2, u}) {
				c := d.Copy()
				if draw >= 0 {
					c.Crash(draw)
				}
				for second := 0; ; second++ {
					what := fmt.Sprintf("plot %d, fuse %d, draw %d, second fuse %d", n, fuse, draw, second)
					o := c.Copy()
					o.Fuse(second)
					_, e := Open(o)
					if e != api.OK && e != api.ErrDead {
						t.Fatalf("%s: Open = %v", what, e)
					}
					for again := range loose(o) + 1 {
						x := o.Copy()
						x.Crash(again)
						blocks := recovers(t, what, x, sure, maybe)
						follows(t, what, x, blocks)
					}
					x := o.Copy()
					blocks := recovers(t, what+", without a Crash", x, sure, maybe)
					if e == api.OK {
						break
					}
					// What an Open has told stays, whatever a Crash keeps.
					x.Crash(0)
					if again := recovers(t, what+", told", x, sure, maybe); len(again) != len(blocks) {
						t.Fatalf("%s: %d blocks were told, now %d", what, len(blocks), len(again))
					}
				}
			}
			if maybe == nil {
				break
			}
		}
	}
}

// A redaction whose record was laid, but does not last, is done by an Open without a Crash: then the record must last.
func TestRedactionThatDidNotLast(t *testing.T) {
	plot := [][]api.Entry{entries(revision(1, hidden(0, 0)), revision(2, hidden(0, 1))), entries(redaction(0, 0))}
	for fuse := 0; ; fuse++ {
		d, sure, maybe := burnt(t, plot, fuse)
		if maybe == nil {
			break
		}
		d.Fuse(-1)
		blocks := recovers(t, "without a Crash", d, sure, maybe)
		d.Crash(0)
		recovers(t, "behind it", d, blocks, nil)
	}
}

// An error that Append answers while the fuse burns is the disk's, and the journal that is there tells what it told.
func TestJournalBehindABurntFuse(t *testing.T) {
	plot := plots()[2]
	total := 0
	for fuse := 0; ; fuse++ {
		d := newDisk(t, room)
		j := opened(t, d)
		d.Fuse(fuse)
		var sure []api.Block
		for _, l := range plot {
			b := behind(sure, l...)
			if e := j.Append(b); e != api.OK {
				tells(t, "dead", j, sure)
				d.Crash(1)
				// It is used no more, but does not panic.
				j.Append(b)
				j.Block(0)
				j.Digest()
				break
			}
			sure = chapterWith(sure, b)
		}
		if len(sure) == len(plot) {
			total = fuse
			break
		}
	}
	// 2+2, 2+2, 2+2, 2+2+2+2+3, 2, 2+2+2+2 steps: Revisions, shadows, records, what is put in place.
	if total != 33 {
		t.Errorf("the plot takes %d steps", total)
	}
}
