package journal

import (
	"bytes"
	"crypto/sha256"
	"encoding/binary"
	"fmt"
	"hash/crc32"
	"math"
	"slices"
	"strings"
	"testing"

	"scrivener/api"
	"scrivener/block"
	"scrivener/codec"
	"scrivener/disk"
)

// The chapter, written out a second time over the library's sums and its way with numbers: what the tests hold the answers
// against. Of the layers below it is the disk, and chapters 7 and 11 for what a value and a block are, that are asked.

func uv(n int) []byte { return binary.AppendUvarint(nil, uint64(n)) }

func cat(parts ...[]byte) []byte { return bytes.Join(parts, nil) }

func chapterRecord(p []byte) []byte {
	b := binary.BigEndian.AppendUint32(nil, uint32(len(p)))
	b = binary.BigEndian.AppendUint32(b, crc32.ChecksumIEEE(b))
	b = append(b, p...)
	return binary.BigEndian.AppendUint32(b, crc32.ChecksumIEEE(b))
}

func chapterName(index int) string { return fmt.Sprintf("d%08d", index) }

// bareBytes is a block's bytes without data.
func bareBytes(b api.Block) []byte {
	p, e := block.Encode(b, false)
	if e != api.OK {
		panic(e)
	}
	return p
}

// chapterPart is what a data file has of an entry at a place.
func chapterPart(place int, v api.Value) []byte {
	b, _ := codec.Encode(v)
	return cat(uv(place), uv(len(b)), b)
}

// chapterData is a block's data file; nil, if it has none.
func chapterData(b api.Block) []byte {
	var p []byte
	for place, e := range b.Entries {
		if e.Kind == api.EntryRevision && !e.Gone {
			p = append(p, chapterPart(place, e.Data)...)
		}
	}
	if p == nil {
		return nil
	}
	return chapterRecord(p)
}

// chapterFiles is what stands on the disk of a journal with these blocks.
func chapterFiles(blocks []api.Block) map[string]string {
	files := map[string]string{}
	for i, b := range blocks {
		files["journal"] += string(chapterRecord(bareBytes(b)))
		if p := chapterData(b); p != nil {
			files[chapterName(i)] = string(p)
		}
	}
	return files
}

func chapterLast(blocks []api.Block) (api.Hash, int) {
	if len(blocks) == 0 {
		return api.Hash{}, math.MinInt
	}
	last := blocks[len(blocks)-1]
	h, _ := block.Hash(last)
	return h, last.Time
}

func isRevision(blocks []api.Block, a api.Address) bool {
	return a.Block < len(blocks) && a.Entry < len(blocks[a.Block].Entries) && blocks[a.Block].Entries[a.Entry].Kind == api.EntryRevision
}

// chapterRefuses is the error that Append has of b ahead of the disk.
func chapterRefuses(blocks []api.Block, b api.Block) api.Errno {
	last, time := chapterLast(blocks)
	if b.Index != len(blocks) || b.Prev != last || b.Time < time {
		return api.ErrArg
	}
	if e := block.Check(b); e != api.OK {
		return e
	}
	for i, e := range b.Entries {
		if e.Gone {
			return api.ErrArg
		}
		if e.Kind != api.EntryRedact {
			continue
		}
		if !isRevision(blocks, e.At) || blocks[e.At.Block].Entries[e.At.Entry].Gone {
			return api.ErrArg
		}
		for _, ahead := range b.Entries[:i] {
			if ahead.Kind == api.EntryRedact && ahead.At == e.At {
				return api.ErrArg
			}
		}
	}
	return api.OK
}

// without is blocks in which the entry at a is Gone; the ones that are handed in stay.
func without(blocks []api.Block, a api.Address) []api.Block {
	blocks = slices.Clone(blocks)
	entries := slices.Clone(blocks[a.Block].Entries)
	entries[a.Entry].Gone, entries[a.Entry].Data = true, api.Value{}
	blocks[a.Block].Entries = entries
	return blocks
}

// chapterWith is blocks with b behind them, and what it redacts Gone.
func chapterWith(blocks []api.Block, b api.Block) []api.Block {
	after := append(slices.Clone(blocks), b)
	for _, e := range b.Entries {
		if e.Kind == api.EntryRedact {
			after = without(after, e.At)
		}
	}
	return after
}

func hasFile(d *disk.Disk, name string) bool { return slices.Contains(d.List(), name) }

// chapterWriter does things on a disk, and panics with the first error.
type chapterWriter struct {
	*disk.Disk
	written []string
}

func must(e api.Errno) {
	if e != api.OK {
		panic(e)
	}
}

func (w *chapterWriter) write(name string, b []byte) {
	if hasFile(w.Disk, name) {
		must(w.Remove(name))
	}
	must(w.Append(name, b))
	w.written = append(w.written, name)
	must(w.Sync(name))
}

func (w *chapterWriter) shadow(index int, file []byte) {
	if file != nil {
		w.write(chapterName(index)+"~", file)
	}
}

func (w *chapterWriter) replace(index int, file []byte) {
	if file != nil {
		must(w.Rename(chapterName(index)+"~", chapterName(index)))
	} else {
		must(w.Remove(chapterName(index)))
	}
}

// caught makes what was panicked with an error.
func caught(e *api.Errno) {
	if met := recover(); met != nil {
		*e = met.(api.Errno)
	}
}

// chapterLay does what Append of b does on the disk.
func chapterLay(d *disk.Disk, before []api.Block, b api.Block) api.Errno {
	w := &chapterWriter{Disk: d}
	e := w.lay(before, b)
	if e == api.ErrFull {
		for _, name := range w.written {
			if f := d.Remove(name); f != api.OK {
				return f
			}
		}
	}
	return e
}

func (w *chapterWriter) lay(before []api.Block, b api.Block) (e api.Errno) {
	defer caught(&e)
	after := chapterWith(before, b)
	named := map[int][]byte{}
	for _, e := range b.Entries {
		if e.Kind == api.EntryRedact {
			named[e.At.Block] = chapterData(after[e.At.Block])
		}
	}
	if file := chapterData(b); file != nil {
		w.write(chapterName(b.Index), file)
	}
	for i := range before {
		if file, is := named[i]; is {
			w.shadow(i, file)
		}
	}
	must(w.Append("journal", chapterRecord(bareBytes(b))))
	must(w.Sync("journal"))
	for i := range before {
		if file, is := named[i]; is {
			w.replace(i, file)
		}
	}
	return api.OK
}

// chapterScan is what records hold, and how many bytes the whole ones have.
func chapterScan(b []byte) (held [][]byte, good int) {
	for {
		left := b[good:]
		if len(left) < 12 || crc32.ChecksumIEEE(left[:4]) != binary.BigEndian.Uint32(left[4:]) {
			return held, good
		}
		n := int(binary.BigEndian.Uint32(left))
		if n > 524288 || len(left) < n+12 || crc32.ChecksumIEEE(left[:n+8]) != binary.BigEndian.Uint32(left[n+8:]) {
			return held, good
		}
		held = append(held, left[8:n+8])
		good += n + 12
	}
}

// chapterUvarint is a number at the beginning of b and what stands behind it; false, if it is none.
func chapterUvarint(b []byte) (uint64, []byte, bool) {
	u, n := binary.Uvarint(b)
	if n <= 0 || n > 1 && b[n-1] == 0 {
		return 0, nil, false
	}
	return u, b[n:], true
}

type chapterFound struct {
	place uint64
	data  []byte
}

// chapterParts is what a data file has, in its order; false, if it is none.
func chapterParts(file []byte) ([]chapterFound, bool) {
	held, good := chapterScan(file)
	if len(held) != 1 || good != len(file) {
		return nil, false
	}
	var out []chapterFound
	for p := held[0]; len(p) > 0; {
		place, left, ok := chapterUvarint(p)
		n, left, also := chapterUvarint(left)
		if !ok || !also || n > uint64(len(left)) {
			return nil, false
		}
		out = append(out, chapterFound{place, left[:n]})
		p = left[n:]
	}
	return out, true
}

// chapterRecords is the blocks that records hold, all Revisions Gone.
func chapterRecords(records [][]byte) ([]api.Block, api.Errno) {
	var blocks []api.Block
	for i, p := range records {
		b, e := block.Decode(p)
		if e != api.OK {
			return nil, e
		}
		for _, x := range b.Entries {
			if x.Kind == api.EntryRevision && !x.Gone {
				return nil, api.ErrForm
			}
		}
		last, time := chapterLast(blocks)
		switch {
		case b.Index != i:
			return nil, api.ErrForm
		case b.Prev != last:
			return nil, api.ErrDigest
		case b.Time < time:
			return nil, api.ErrForm
		}
		blocks = append(blocks, b)
	}
	return blocks, api.OK
}

// chapterGone is what the EntryRedacts name: Revisions of their own block, or of one ahead of it.
func chapterGone(blocks []api.Block) map[api.Address]bool {
	gone := map[api.Address]bool{}
	for i, b := range blocks {
		for _, e := range b.Entries {
			if e.Kind == api.EntryRedact && isRevision(blocks[:i+1], e.At) {
				gone[e.At] = true
			}
		}
	}
	return gone
}

// chapterTake takes a block's Data from its data file, and tells whether something stands there that is Gone.
func chapterTake(d *disk.Disk, b *api.Block, gone map[api.Address]bool) (stale bool, e api.Errno) {
	file, none := d.Read(chapterName(b.Index))
	found, is := chapterParts(file)
	for i := range b.Entries {
		x := &b.Entries[i]
		if x.Kind != api.EntryRevision {
			continue
		}
		at := slices.IndexFunc(found, func(f chapterFound) bool { return f.place == uint64(i) })
		if gone[api.Address{Block: b.Index, Entry: i}] {
			stale = stale || at >= 0 || none == api.OK && !is
			continue
		}
		if at < 0 {
			return false, api.ErrForm
		}
		v, e := codec.Decode(found[at].data)
		if e != api.OK {
			return false, api.ErrForm
		}
		if h, _ := codec.Hash(v); h != x.DataHash {
			return false, api.ErrDigest
		}
		x.Data, x.Gone = v, false
	}
	return stale, api.OK
}

// chapterOpen is the blocks that Open finds; what it does on the disk is done.
func chapterOpen(d *disk.Disk) (blocks []api.Block, e api.Errno) {
	file, _ := d.Read("journal")
	records, good := chapterScan(file)
	blocks, e = chapterRecords(records)
	if e != api.OK {
		return nil, e
	}
	gone := chapterGone(blocks)
	var stale []int
	for i := range blocks {
		is, e := chapterTake(d, &blocks[i], gone)
		if e != api.OK {
			return nil, e
		}
		if is {
			stale = append(stale, i)
		}
	}
	if e := chapterMend(d, blocks, len(file), good, stale); e != api.OK {
		return nil, e
	}
	return blocks, api.OK
}

func chapterMend(d *disk.Disk, blocks []api.Block, all, good int, stale []int) (e api.Errno) {
	defer caught(&e)
	w := &chapterWriter{Disk: d}
	if all > good {
		must(d.Truncate("journal", good))
		must(d.Sync("journal"))
	} else if i := slices.IndexFunc(look(d), func(f fileState) bool { return f.name == "journal" && f.lasts < good }); i >= 0 {
		must(d.Sync("journal"))
	}
	for _, name := range d.List() {
		var index int
		n, _ := fmt.Sscanf(name, "d%d", &index)
		if strings.HasSuffix(name, "~") || n == 1 && len(name) == 9 && chapterName(index) == name && index >= len(blocks) {
			must(d.Remove(name))
		}
	}
	for _, i := range stale {
		w.shadow(i, chapterData(blocks[i]))
		w.replace(i, chapterData(blocks[i]))
	}
	return api.OK
}

func chapterNode(l, r api.Hash) api.Hash { return sha256.Sum256(cat([]byte{1}, l[:], r[:])) }

func chapterRoot(l []api.Hash) api.Hash {
	switch len(l) {
	case 0:
		return sha256.Sum256(nil)
	case 1:
		return l[0]
	}
	k := 1
	for k+k < len(l) {
		k += k
	}
	return chapterNode(chapterRoot(l[:k]), chapterRoot(l[k:]))
}

// fileState is a file: its bytes, and how many of them last.
type fileState struct {
	name  string
	bytes string
	lasts int
}

// look is all files of a disk.
func look(d *disk.Disk) []fileState {
	crashed := d.Copy()
	crashed.Crash(0)
	var out []fileState
	for _, name := range d.List() {
		b, _ := d.Read(name)
		left, _ := crashed.Read(name)
		out = append(out, fileState{name, string(b), len(left)})
	}
	return out
}

// filesOf is a disk's files without how much of them lasts.
func filesOf(d *disk.Disk) map[string]string {
	files := map[string]string{}
	for _, f := range look(d) {
		files[f.name] = f.bytes
	}
	return files
}

func shortFiles(l []fileState) string {
	var out []string
	for _, f := range l {
		out = append(out, fmt.Sprintf("%s(%d of %d, %08x)", f.name, f.lasts, len(f.bytes), crc32.ChecksumIEEE([]byte(f.bytes))))
	}
	return strings.Join(out, " ")
}

// sameDisks tells whether two disks have the same files, of which the same lasts.
func sameDisks(t *testing.T, what string, got, want *disk.Disk) {
	t.Helper()
	if a, b := look(got), look(want); !slices.Equal(a, b) {
		t.Fatalf("%s: the disk has\n%s, want\n%s", what, shortFiles(a), shortFiles(b))
	}
}

// alike tells whether two values are alike in all; a nil list is like an empty one.
func alike(a, b api.Value) bool {
	return a.Kind == b.Kind && a.Int == b.Int && a.Scale == b.Scale && a.Text == b.Text && slices.Equal(a.Names, b.Names) && slices.EqualFunc(a.Kids, b.Kids, alike)
}

func sameEntry(a, b api.Entry) bool {
	return a.Kind == b.Kind && a.Text == b.Text && a.Table == b.Table && a.Doc == b.Doc && a.Version == b.Version && alike(a.Data, b.Data) && a.DataHash == b.DataHash && a.Gone == b.Gone && a.At == b.At
}

func sameBlock(a, b api.Block) bool {
	return a.Index == b.Index && a.Time == b.Time && a.Txn == b.Txn && a.Prev == b.Prev && slices.EqualFunc(a.Entries, b.Entries, sameEntry)
}

// tells asks a journal all that can be asked, and holds it against blocks.
func tells(t *testing.T, what string, j *Journal, blocks []api.Block) {
	t.Helper()
	var hashes []api.Hash
	for _, b := range blocks {
		h, _ := block.Hash(b)
		hashes = append(hashes, h)
	}
	last, _ := chapterLast(blocks)
	if n := j.Size(); n != len(blocks) {
		t.Fatalf("%s: Size = %d, want %d", what, n, len(blocks))
	}
	if h := j.Last(); h != last {
		t.Errorf("%s: Last = %x, want %x", what, h, last)
	}
	if l := j.Hashes(); !slices.Equal(l, hashes) {
		t.Errorf("%s: Hashes = %x, want %x", what, l, hashes)
	}
	if d, want := j.Digest(), (api.Digest{Size: len(blocks), Root: chapterRoot(hashes)}); d != want {
		t.Errorf("%s: Digest = %v, want %v", what, d, want)
	}
	for i, want := range blocks {
		if b, e := j.Block(i); e != api.OK || !sameBlock(b, want) {
			t.Fatalf("%s: Block(%d) = %v, %v, want %v", what, i, b, e, want)
		}
		for place := range len(want.Entries) + 2 {
			is := place < len(want.Entries) && want.Entries[place].Gone
			if got := j.Gone(api.Address{Block: i, Entry: place}); got != is {
				t.Errorf("%s: Gone(%d, %d) = %v", what, i, place, got)
			}
		}
	}
	for _, i := range []int{-1, len(blocks), len(blocks) + 1, math.MinInt, math.MaxInt} {
		if b, e := j.Block(i); e != api.ErrNone || !sameBlock(b, api.Block{}) {
			t.Errorf("%s: Block(%d) = %v, %v, want ErrNone", what, i, b, e)
		}
		for _, a := range []api.Address{{Block: i}, {Entry: -1}, {Block: i, Entry: i}} {
			if j.Gone(a) {
				t.Errorf("%s: Gone(%v)", what, a)
			}
		}
	}
}
