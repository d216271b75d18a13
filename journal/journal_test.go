package journal

import (
	"fmt"
	"maps"
	"math"
	"slices"
	"strings"
	"testing"

	"scrivener/api"
	"scrivener/block"
	"scrivener/codec"
	"scrivener/disk"
)

const room = 1 << 22

func num(n int) api.Value           { return api.Value{Kind: api.Int, Int: n} }
func text(s string) api.Value       { return api.Value{Kind: api.Text, Text: s} }
func list(l ...api.Value) api.Value { return api.Value{Kind: api.List, Kids: l} }

// record is a struct with these names, parted by blanks.
func record(names string, kids ...api.Value) api.Value {
	return api.Value{Kind: api.Struct, Names: strings.Fields(names), Kids: kids}
}

// secret is Data whose bytes can be looked for in files.
func secret(s string) api.Value { return record("s", list(text(s), num(7))) }

func letters(n int) string { return strings.Repeat("x", n) }

func statement(s string) api.Entry { return api.Entry{Kind: api.EntryStatement, Text: s} }

func revision(doc int, v api.Value) api.Entry {
	h, _ := codec.Hash(v)
	return api.Entry{Kind: api.EntryRevision, Table: 1, Doc: doc, Version: doc % 3, Data: v, DataHash: h}
}

func gone(doc int, h api.Hash) api.Entry {
	return api.Entry{Kind: api.EntryRevision, Table: 1, Doc: doc, DataHash: h, Gone: true}
}

func deletion(doc int) api.Entry {
	return api.Entry{Kind: api.EntryDelete, Table: 1, Doc: doc, Version: 1}
}

func redaction(block, entry int) api.Entry {
	return api.Entry{Kind: api.EntryRedact, At: api.Address{Block: block, Entry: entry}}
}

func table(n int) api.Entry { return api.Entry{Kind: api.EntryTable, Table: n, Text: "t"} }

func drop(n int) api.Entry { return api.Entry{Kind: api.EntryDrop, Table: n} }

func indexed(n int) api.Entry { return api.Entry{Kind: api.EntryIndex, Table: n, Text: "f"} }

// entries is a list of them.
func entries(l ...api.Entry) []api.Entry { return l }

// behind is the block with these entries that comes behind others.
func behind(blocks []api.Block, l ...api.Entry) api.Block {
	last, _ := chapterLast(blocks)
	return api.Block{Index: len(blocks), Time: 10 * (len(blocks) / 2), Txn: 3 * len(blocks), Prev: last, Entries: l}
}

// chain is blocks with these entries, one behind the other, as they are once all are there.
func chain(each ...[]api.Entry) []api.Block {
	var blocks []api.Block
	for _, l := range each {
		blocks = chapterWith(blocks, behind(blocks, l...))
	}
	return blocks
}

func newDisk(t *testing.T, room int) *disk.Disk {
	t.Helper()
	d, e := disk.New(room)
	if e != api.OK {
		t.Fatal(e)
	}
	return d
}

func opened(t *testing.T, d *disk.Disk) *Journal {
	t.Helper()
	j, e := Open(d)
	if e != api.OK {
		t.Fatalf("Open: %v", e)
	}
	return j
}

// grown is a disk with a journal of blocks with these entries.
func grown(t *testing.T, room int, each ...[]api.Entry) (*disk.Disk, *Journal, []api.Block) {
	t.Helper()
	d := newDisk(t, room)
	j := opened(t, d)
	var blocks []api.Block
	for _, l := range each {
		b := behind(blocks, l...)
		if e := j.Append(b); e != api.OK {
			t.Fatalf("Append of block %d: %v", b.Index, e)
		}
		blocks = chapterWith(blocks, b)
	}
	return d, j, blocks
}

// laid is a disk with just these files, all of which last.
func laid(t *testing.T, files map[string]string) *disk.Disk {
	t.Helper()
	d := newDisk(t, room)
	for name, s := range files {
		must(d.Append(name, []byte(s)))
		must(d.Sync(name))
	}
	return d
}

// with is files with others beside them, or in their stead; "-" takes one away.
func with(files map[string]string, more ...string) map[string]string {
	files = maps.Clone(files)
	for i := 0; i < len(more); i += 2 {
		if files[more[i]] = more[i+1]; more[i+1] == "-" {
			delete(files, more[i])
		}
	}
	return files
}

// story is the entries of a journal that has all kinds of them; three Revisions are Gone at its end.
func story() [][]api.Entry {
	return [][]api.Entry{
		entries(statement("create"), table(1)),
		entries(revision(1, secret("first"))),
		entries(statement("insert"), revision(2, secret("second")), indexed(1), revision(3, secret("third")), revision(4, num(0)), deletion(1)),
		entries(drop(2)),
		entries(redaction(2, 3)),
		entries(revision(5, secret("fifth")), redaction(1, 0), statement("redact"), redaction(2, 1), revision(5, list())),
		entries(revision(6, api.Value{Kind: api.Null})),
	}
}

// P12.1, P12.3: ordinary journals

func TestAppendOrdinary(t *testing.T) {
	d := newDisk(t, room)
	j := opened(t, d)
	tells(t, "an empty journal", j, nil)
	var blocks []api.Block
	for _, l := range story() {
		b := behind(blocks, l...)
		if e := j.Append(b); e != api.OK {
			t.Fatalf("Append of block %d: %v", b.Index, e)
		}
		blocks = chapterWith(blocks, b)
		what := fmt.Sprint("behind block ", b.Index)
		tells(t, what, j, blocks)
		if got, want := filesOf(d), chapterFiles(blocks); !maps.Equal(got, want) {
			t.Errorf("%s: the files are %q, want %q", what, got, want)
		}
		for _, f := range look(d) {
			if f.lasts != len(f.bytes) {
				t.Errorf("%s: of %s only %d of %d bytes last", what, f.name, f.lasts, len(f.bytes))
			}
		}
		tells(t, what+", opened again", opened(t, d.Copy()), blocks)
	}
	for _, s := range []string{"first", "second", "third"} {
		if holds(d, s) {
			t.Errorf("a file has %q", s)
		}
	}
	if !holds(d, "fifth") || len(d.List()) != 4 {
		t.Errorf("the files are %q", d.List())
	}
}

func holds(d *disk.Disk, s string) bool {
	for _, f := range look(d) {
		if strings.Contains(f.bytes, s) {
			return true
		}
	}
	return false
}

// The files, byte by byte, with nothing reckoned but digests and sums.
func TestFilesByteByByte(t *testing.T) {
	d, _, blocks := grown(t, room, entries(statement("hi"), revision(2, text("ab")), revision(3, num(-1))), entries(redaction(0, 1)))
	first, second := blocks[0].Entries[1].DataHash, blocks[0].Entries[2].DataHash
	last, _ := block.Hash(blocks[0])
	zero := make([]byte, 32)
	want := cat(
		chapterRecord(cat([]byte{0, 0, 0}, zero, []byte{3, 1, 0, 0, 0, 2, 'h', 'i', 0, 0, 2, 1, 2, 2, 0, 0, 0}, first[:], []byte{0, 2, 1, 3, 0, 0, 0, 0}, second[:], []byte{0})),
		chapterRecord(cat([]byte{1, 0, 3}, last[:], []byte{1, 4, 0, 0, 0, 0, 0, 1})))
	if b, _ := d.Read("journal"); string(b) != string(want) {
		t.Errorf("journal is\n%x, want\n%x", b, want)
	}
	if b, _ := d.Read("d00000000"); string(b) != string(chapterRecord([]byte{2, 2, 3, 1})) {
		t.Errorf("the data file is %x", b)
	}
	d, _, _ = grown(t, room, entries(drop(1)), entries(statement("hi"), revision(2, text("ab")), revision(3, num(-1))))
	if b, _ := d.Read("d00000001"); string(b) != string(chapterRecord([]byte{1, 4, 6, 2, 'a', 'b', 2, 2, 3, 1})) {
		t.Errorf("the data file is %x", b)
	}
	if l := d.List(); !slices.Equal(l, []string{"d00000001", "journal"}) {
		t.Errorf("the files are %q", l)
	}
}

func TestNamesOfDataFiles(t *testing.T) {
	for index, want := range map[int]string{0: "d00000000", 7: "d00000007", 10: "d00000010", 12345678: "d12345678", 90807060: "d90807060", 99999999: "d99999999"} {
		if s := dataName(index); s != want || shadowName(index) != want+"~" {
			t.Errorf("dataName(%d) = %q, shadowName %q", index, s, shadowName(index))
		}
		if n, is := indexOf(want); n != index || !is {
			t.Errorf("indexOf(%q) = %d, %v", want, n, is)
		}
	}
	for _, s := range []string{"", "d", "d0", "d0000000", "d000000000", "0000000", "00000000", "000000000", "dd0000000", "e00000000", "D00000000", "d+0000001", "d-0000001", "d0000000x", "d 0000001", "d00000000~", "journal", "d0x000001", "d1_000_00", "d100000000", "d123456789", "d-1234567", "d+1234567", "d0000000/", "d0000000:", "d/0000000", "d:0000000", "d18446744073709551615"} {
		if n, is := indexOf(s); is || n != 0 {
			t.Errorf("indexOf(%q) = %d, %v", s, n, is)
		}
	}
}

// A block with as many Revisions as there may be, and Data as long as there may be.
func TestGreatBlocks(t *testing.T) {
	var many, less []api.Entry
	for i := range api.MaxEnts {
		many = append(many, revision(1+i, num(i)))
	}
	for i := range api.MaxEnts - 1 {
		less = append(less, redaction(0, (i*7)%199))
	}
	d, j, blocks := grown(t, room, many, less, entries(revision(1, list(text(letters(1<<14)), text(letters(1<<14)))), revision(2, text(letters(1<<14))), revision(3, text(letters(1<<14)))), entries(redaction(2, 1), redaction(0, 199)))
	tells(t, "great blocks", j, blocks)
	early, _, first := grown(t, room, many, less[:150])
	tells(t, "many Revisions, opened again", opened(t, early), first)
	tells(t, "great blocks, opened again", opened(t, d), blocks)
	if got, want := filesOf(d), chapterFiles(blocks); !maps.Equal(got, want) {
		t.Error("the files are others")
	}
	b := fullBlock(blocks)
	if p, e := block.Encode(b, true); e != api.OK || len(p) != api.MaxBlock {
		t.Fatalf("a block of %d bytes, %v", len(p), e)
	}
	if e := j.Append(b); e != api.OK {
		t.Fatalf("Append of a block of MaxBlock bytes: %v", e)
	}
	tells(t, "a full block", opened(t, d), chapterWith(blocks, b))
}

// fullBlock is a block that takes just MaxBlock bytes.
func fullBlock(blocks []api.Block) api.Block {
	var full []api.Entry
	for i := range 15 {
		full = append(full, revision(1+i, text(letters(1<<14))))
	}
	short, _ := block.Encode(behind(blocks, append(full, revision(16, text(letters(1<<13))))...), true)
	return behind(blocks, append(full, revision(16, text(letters(1<<13+api.MaxBlock-len(short)))))...)
}

// P12.1: errors

// refusal is a block that Append refuses, and with which error.
type refusal struct {
	what string
	b    api.Block
	e    api.Errno
}

// turned is the block behind others with these entries, and something of it turned.
func turned(blocks []api.Block, l []api.Entry, turns ...func(b *api.Block)) api.Block {
	b := behind(blocks, l...)
	for _, turn := range turns {
		turn(&b)
	}
	return b
}

func refusals(blocks []api.Block) []refusal {
	n := len(blocks)
	last, time := chapterLast(blocks)
	var out []refusal
	add := func(e api.Errno, what string, b api.Block) { out = append(out, refusal{what, b, e}) }
	good, bad := entries(drop(1)), entries(statement(""))
	wrongHash := revision(1, num(1))
	wrongHash.DataHash[5] ^= 1
	long := slices.Repeat(entries(statement(letters(api.MaxText))), 70)
	deep := num(1)
	for range api.MaxDeep {
		deep = list(deep)
	}
	heads := map[string]func(b *api.Block){
		"Prev":      func(b *api.Block) { b.Prev[31] ^= 1 },
		"Prev's 0":  func(b *api.Block) { b.Prev[0] ^= 128 },
		"Index - 1": func(b *api.Block) { b.Index-- },
		"Index + 1": func(b *api.Block) { b.Index++ },
		"Index":     func(b *api.Block) { b.Index = math.MaxInt },
		"Time":      func(b *api.Block) { b.Time = time - 1 },
		"Time - 9":  func(b *api.Block) { b.Time = min(0, time) - 9 },
	}
	for what, turn := range heads {
		add(api.ErrArg, what, turned(blocks, good, turn))
		// Ahead of Check's error.
		add(api.ErrArg, what+" and an entry", turned(blocks, bad, turn))
		add(api.ErrArg, what+" and a DataHash", turned(blocks, entries(wrongHash), turn))
	}
	if last != (api.Hash{}) {
		add(api.ErrArg, "Prev is nothing", turned(blocks, good, func(b *api.Block) { b.Prev = api.Hash{} }))
	}
	add(api.ErrArg, "Txn", turned(blocks, good, func(b *api.Block) { b.Txn = -1 }))
	add(api.ErrArg, "Time too great", turned(blocks, good, func(b *api.Block) { b.Time = 1<<53 + 1 }))
	add(api.ErrArg, "no entry", behind(blocks))
	add(api.ErrArg, "too many", behind(blocks, slices.Repeat(good, 201)...))
	add(api.ErrForm, "an entry", behind(blocks, bad...))
	add(api.ErrForm, "nothing", behind(blocks, api.Entry{}))
	add(api.ErrDigest, "a DataHash", behind(blocks, wrongHash))
	add(api.ErrLong, "too long", behind(blocks, long...))
	add(api.ErrDeep, "too deep", behind(blocks, revision(1, deep)))
	add(api.ErrForm, "Data", behind(blocks, revision(1, api.Value{})))
	add(api.ErrArg, "a Revision that is Gone", behind(blocks, gone(1, api.Hash{})))
	add(api.ErrArg, "one that is Gone behind others", behind(blocks, revision(1, num(1)), drop(1), gone(1, wrongHash.DataHash)))
	// Check's error is ahead of what is Gone and of what is redacted.
	add(api.ErrForm, "Gone and an entry", behind(blocks, gone(1, api.Hash{}), statement("")))
	add(api.ErrDigest, "Gone and a DataHash", behind(blocks, gone(1, api.Hash{}), redaction(n, 0), wrongHash))
	add(api.ErrForm, "a redaction of nothing and an entry", behind(blocks, redaction(n, 0), statement("")))
	add(api.ErrLong, "a redaction of nothing and too long", behind(blocks, append(long, redaction(1<<31, 1<<31))...))
	for _, at := range []api.Address{{Block: n}, {Block: n, Entry: 1}, {Block: n + 1}, {Block: 1 << 31}, {Entry: 1 << 31}, {Entry: 200}, {Block: max(0, n-1), Entry: 6}, {Block: 1 << 31, Entry: 1 << 31}} {
		add(api.ErrArg, fmt.Sprint("a redaction of ", at), behind(blocks, redaction(at.Block, at.Entry)))
		add(api.ErrArg, fmt.Sprint("a redaction of ", at, " within"), behind(blocks, revision(1, num(1)), redaction(at.Block, at.Entry), revision(2, num(1))))
	}
	for i, b := range blocks {
		for place, e := range b.Entries {
			at := redaction(i, place)
			if e.Kind != api.EntryRevision || e.Gone {
				add(api.ErrArg, fmt.Sprint("a redaction of ", at.At), behind(blocks, at))
				add(api.ErrArg, fmt.Sprint("a redaction of ", at.At, " behind others"), behind(blocks, statement("s"), revision(1, num(1)), at))
				continue
			}
			add(api.ErrArg, fmt.Sprint("two redactions of ", at.At), behind(blocks, at, at))
			add(api.ErrArg, fmt.Sprint("two redactions of ", at.At, " apart"), behind(blocks, at, drop(1), revision(1, num(1)), at))
			add(api.ErrArg, fmt.Sprint("a redaction of ", at.At, " and one of nothing"), behind(blocks, at, redaction(n, 0)))
			add(api.ErrArg, fmt.Sprint("a redaction of ", at.At, " and one that is Gone"), behind(blocks, at, gone(1, api.Hash{})))
			add(api.ErrForm, fmt.Sprint("two redactions of ", at.At, " and an entry"), behind(blocks, at, at, statement("")))
		}
	}
	return out
}

// refused appends what may not be, and holds against all that nothing has changed.
func refused(t *testing.T, d *disk.Disk, j *Journal, blocks []api.Block, r refusal) {
	t.Helper()
	if want := chapterRefuses(blocks, r.b); want != r.e {
		t.Fatalf("%s: the test wants %v, the chapter %v", r.what, r.e, want)
	}
	before := d.Copy()
	if e := j.Append(r.b); e != r.e {
		t.Errorf("Append with %s = %v, want %v", r.what, e, r.e)
	}
	sameDisks(t, r.what, d, before)
}

func TestAppendRefuses(t *testing.T) {
	for n := range len(story()) + 1 {
		d, j, blocks := grown(t, room, story()[:n]...)
		for _, r := range refusals(blocks) {
			// Not even a fuse that is burnt is told ahead of what may not be.
			refused(t, d, j, blocks, r)
			d.Fuse(0)
			refused(t, d, j, blocks, r)
			d.Fuse(-1)
		}
		tells(t, "behind what was refused", j, blocks)
		b := behind(blocks, revision(9, num(9)))
		if e := j.Append(b); e != api.OK {
			t.Fatalf("Append behind what was refused: %v", e)
		}
		tells(t, "behind the next one", j, chapterWith(blocks, b))
	}
}

// An EntryRedact names what its own block has, ahead of it or behind: that is no Revision of the journal yet.
func TestAppendRefusesRedactionsOfItsOwn(t *testing.T) {
	d, j, blocks := grown(t, room, story()[:3]...)
	for _, l := range [][]api.Entry{
		entries(revision(1, num(1)), redaction(3, 0)), entries(redaction(3, 1), revision(1, num(1))), entries(redaction(3, 0)), entries(revision(1, num(1)), redaction(1, 0), redaction(3, 0)),
	} {
		refused(t, d, j, blocks, refusal{"a redaction of its own", behind(blocks, l...), api.ErrArg})
	}
}

func TestAppendTimes(t *testing.T) {
	_, j, blocks := grown(t, room)
	for _, time := range []int{0, 0, 5, 5, 6, 1<<53 - 1, 1 << 53, 1 << 53} {
		b := turned(blocks, entries(drop(1)), func(b *api.Block) { b.Time = time })
		if e := j.Append(b); e != api.OK {
			t.Fatalf("Append at %d: %v", time, e)
		}
		blocks = append(blocks, b)
		if time > 0 {
			if e := j.Append(turned(blocks, entries(drop(1)), func(b *api.Block) { b.Time = time - 1 })); e != api.ErrArg {
				t.Errorf("Append at %d behind %d: %v", time-1, time, e)
			}
		}
	}
	tells(t, "times", j, blocks)
	_, j, blocks = grown(t, room)
	for _, time := range []int{-1, math.MinInt} {
		if e := j.Append(turned(blocks, entries(drop(1)), func(b *api.Block) { b.Time = time })); e != api.ErrArg {
			t.Errorf("Append of the first block at %d: %v", time, e)
		}
	}
	b := turned(blocks, entries(drop(1)), func(b *api.Block) { b.Time = 1 << 40 })
	if e := j.Append(b); e != api.OK {
		t.Errorf("Append of the first block at a late time: %v", e)
	}
}

// P12.1, P12.2: the order of what is done on the disk

// done tells what was done on a disk between two looks.
func done(before, after []fileState) string {
	byName := func(l []fileState) map[string]fileState {
		m := map[string]fileState{}
		for _, f := range l {
			m[f.name] = f
		}
		return m
	}
	a, b := byName(before), byName(after)
	var left, changed []string
	for name, f := range a {
		if g, is := b[name]; !is {
			left = append(left, name)
		} else if g != f {
			changed = append(changed, name)
		}
	}
	for name := range b {
		if _, is := a[name]; !is {
			changed = append(changed, name)
		}
	}
	switch {
	case len(left)+len(changed) == 0:
		return "nothing"
	case len(left) == 1 && len(changed) == 0:
		return "remove " + left[0]
	case len(left) == 1 && len(changed) == 1 && b[changed[0]].bytes == a[left[0]].bytes && b[changed[0]].lasts == a[left[0]].lasts:
		return "rename " + left[0] + " " + changed[0]
	case len(left) == 0 && len(changed) == 1:
		old, now := a[changed[0]], b[changed[0]]
		switch {
		case len(now.bytes) < len(old.bytes) && strings.HasPrefix(old.bytes, now.bytes):
			return fmt.Sprint("truncate ", changed[0], " ", len(now.bytes))
		case now.bytes == old.bytes && now.lasts == len(now.bytes) && old.name != "":
			return "sync " + changed[0]
		case strings.HasPrefix(now.bytes, old.bytes) && now.lasts == old.lasts:
			return fmt.Sprint("append ", changed[0], " ", len(now.bytes)-len(old.bytes))
		}
	}
	return fmt.Sprint("more than one thing: ", left, changed)
}

// traced is what act does on copies of a disk, thing by thing, told by fuses that burn ahead of each; and what it answers when
// none burns ahead of its end.
func traced(t *testing.T, d *disk.Disk, act func(d *disk.Disk, fuse int) api.Errno) ([]string, api.Errno) {
	t.Helper()
	var trace []string
	last := look(d)
	for fuse := range 100 {
		c := d.Copy()
		e := act(c, fuse)
		now := look(c)
		if fuse == 0 && !slices.Equal(last, now) {
			t.Fatal("something was done without a fuse")
		}
		if fuse > 0 {
			trace = append(trace, done(last, now))
		}
		last = now
		if e != api.ErrDead {
			return trace, e
		}
	}
	t.Fatal("it does not end")
	return nil, 0
}

// appending is an Append to the journal of a disk, for traced: behind a fuse that burnt it is dead.
func appending(t *testing.T, blocks []api.Block, b api.Block) func(d *disk.Disk, fuse int) api.Errno {
	return func(d *disk.Disk, fuse int) api.Errno {
		t.Helper()
		// Open would take away what the test has laid on the disk for Append to find.
		j := opened(t, d.Copy())
		j.disk = d
		d.Fuse(fuse)
		e := j.Append(b)
		if e == api.OK {
			tells(t, "behind Append", j, chapterWith(blocks, b))
			return e
		}
		tells(t, fmt.Sprint("behind an Append that erred with ", e), j, blocks)
		if e != api.ErrFull {
			isDead(t, d, j, blocks, b)
		}
		return e
	}
}

// isDead tells whether a journal answers ErrDead from now on, and does nothing, whatever the disk would do.
func isDead(t *testing.T, d *disk.Disk, j *Journal, blocks []api.Block, b api.Block) {
	t.Helper()
	c := d.Copy()
	j.disk = c
	for _, x := range []api.Block{b, behind(blocks, drop(1)), {}, behind(blocks), behind(blocks, statement("")), behind(blocks, gone(1, api.Hash{}))} {
		if e := j.Append(x); e != api.ErrDead {
			t.Errorf("Append to a dead journal: %v", e)
		}
	}
	sameDisks(t, "dead", c, d)
	tells(t, "a dead journal", j, blocks)
}

// size is how many bytes a block's record has.
func size(b api.Block) int { return len(chapterRecord(bareBytes(b))) }

func TestStepsOfAppend(t *testing.T) {
	before := [][]api.Entry{
		entries(revision(1, secret("a")), revision(2, secret("bb")), statement("s")),
		entries(drop(1)),
		entries(statement("s"), revision(3, secret("ccc"))),
		entries(revision(4, secret("dddd")), revision(5, secret("eeeee")), revision(6, secret("ffffff"))),
		entries(redaction(3, 1)),
	}
	d, _, blocks := grown(t, room, before...)
	for _, x := range []struct {
		what    string
		entries []api.Entry
		there   []string
		want    string
	}{
		{"no Revision", entries(drop(1), statement("x")), nil, "append journal R, sync journal"},
		{"a data file is there, but no Revision", entries(drop(1)), []string{"d00000005"}, "append journal R, sync journal"},
		{"Revisions", entries(statement("x"), revision(7, num(1)), revision(8, num(2))), nil, "append d00000005 D, sync d00000005, append journal R, sync journal"},
		{"a data file is there", entries(revision(7, num(1))), []string{"d00000005"}, "remove d00000005, append d00000005 D, sync d00000005, append journal R, sync journal"},
		{"others are there", entries(revision(7, num(1))), []string{"d00000005~", "d00000006", "d00000000~", "x~"}, "append d00000005 D, sync d00000005, append journal R, sync journal"},
		{"a redaction", entries(redaction(0, 0)), nil, "append d00000000~ 0, sync d00000000~, append journal R, sync journal, rename d00000000~ d00000000"},
		{"two of one block", entries(redaction(3, 2), drop(1), redaction(3, 0)), nil, "append journal R, sync journal, remove d00000003"},
		{"of the last Data", entries(redaction(2, 1)), nil, "append journal R, sync journal, remove d00000002"},
		{"of several blocks, in another order", entries(redaction(3, 0), redaction(2, 1), redaction(0, 1)), nil, "append d00000000~ 0, sync d00000000~, append d00000003~ 3, sync d00000003~, append journal R, sync journal, rename d00000000~ d00000000, remove d00000002, rename d00000003~ d00000003"},
		{"of all", entries(redaction(3, 0), redaction(0, 1), redaction(2, 1), redaction(0, 0), redaction(3, 2)), nil, "append journal R, sync journal, remove d00000000, remove d00000002, remove d00000003"},
		{"shadows are there", entries(redaction(3, 0), redaction(0, 1)), []string{"d00000003~", "d00000000~", "d00000002~"}, "remove d00000000~, append d00000000~ 0, sync d00000000~, remove d00000003~, append d00000003~ 3, sync d00000003~, append journal R, sync journal, rename d00000000~ d00000000, rename d00000003~ d00000003"},
		{"all at once", entries(redaction(3, 0), revision(7, num(1)), redaction(2, 1), redaction(0, 1), revision(8, secret("x"))), []string{"d00000003~", "d00000005"}, "remove d00000005, append d00000005 D, sync d00000005, append d00000000~ 0, sync d00000000~, remove d00000003~, append d00000003~ 3, sync d00000003~, append journal R, sync journal, rename d00000000~ d00000000, remove d00000002, rename d00000003~ d00000003"},
	} {
		b := behind(blocks, x.entries...)
		after := chapterWith(blocks, b)
		c := d.Copy()
		for _, name := range x.there {
			must(c.Append(name, []byte("what stood there")))
		}
		trace, e := traced(t, c, appending(t, blocks, b))
		want := strings.NewReplacer("R,", fmt.Sprint(size(b), ","), "D,", fmt.Sprint(len(chapterData(b)), ","), "~ 0,", fmt.Sprint("~ ", len(chapterData(after[0])), ","), "~ 3,", fmt.Sprint("~ ", len(chapterData(after[3])), ",")).Replace(x.want)
		if got := strings.Join(trace, ", "); got != want || e != api.OK {
			t.Errorf("%s: %v\n%s, want\n%s", x.what, e, got, want)
		}
		// Byte by byte, behind each step.
		for fuse := range len(trace) + 1 {
			got, twin := c.Copy(), c.Copy()
			appending(t, blocks, b)(got, fuse)
			twin.Fuse(fuse)
			chapterLay(twin, blocks, b)
			sameDisks(t, fmt.Sprint(x.what, " behind step ", fuse), got, twin)
		}
	}
}

// P12.1: no room

// TestNoRoom: at each step that needs room there is just enough, or a byte too few.
func TestNoRoom(t *testing.T) {
	before := [][]api.Entry{
		entries(revision(1, secret("a")), revision(2, secret("bb"))),
		entries(statement("s"), revision(3, secret("ccc"))),
		entries(revision(4, secret("dddd")), revision(5, secret("eeeee")), revision(6, secret("ffffff"))),
	}
	blocks := chain(before...)
	b := behind(blocks, redaction(2, 0), revision(7, secret("ggggggg")), redaction(1, 1), redaction(0, 1))
	after := chapterWith(blocks, b)
	probe, _, _ := grown(t, room, before...)
	data, first, third, own := len(chapterData(b)), len(chapterData(after[0])), len(chapterData(after[2])), size(b)
	steps := "append d00000003 " + fmt.Sprint(data) + ", sync d00000003, append d00000000~ " + fmt.Sprint(first) + ", sync d00000000~, append d00000002~ " + fmt.Sprint(third) + ", sync d00000002~, append journal " + fmt.Sprint(own) + ", sync journal, rename d00000000~ d00000000, remove d00000001, rename d00000002~ d00000002"
	need := probe.Used()
	for _, x := range []struct {
		what string
		more int
		e    api.Errno
		done int
		undo string
	}{
		{"the data file", data, api.ErrFull, 0, "nothing"},
		{"the first shadow", first, api.ErrFull, 2, ", remove d00000003"},
		{"the second shadow", third, api.ErrFull, 4, ", remove d00000003, remove d00000000~"},
		{"the record", own, api.ErrFull, 6, ", remove d00000003, remove d00000000~, remove d00000002~"},
		{"nothing", 1, api.OK, 11, ""},
	} {
		need += x.more
		d, _, _ := grown(t, need-1, before...)
		trace, e := traced(t, d, appending(t, blocks, b))
		want := strings.TrimPrefix(strings.Join(strings.SplitN(steps, ", ", 12)[:x.done], ", ")+x.undo, ", ")
		if got := strings.Join(trace, ", "); got != want || e != x.e {
			t.Errorf("no room for %s: %v, %s, want %v, %s", x.what, e, got, x.e, want)
		}
		for fuse := range len(trace) + 1 {
			got, twin := d.Copy(), d.Copy()
			e := appending(t, blocks, b)(got, fuse)
			twin.Fuse(fuse)
			f := chapterLay(twin, blocks, b)
			sameDisks(t, fmt.Sprint("no room for ", x.what, " behind step ", fuse), got, twin)
			if e != f || fuse < len(trace) && e != api.ErrDead {
				t.Errorf("no room for %s, fuse %d: %v, %v", x.what, fuse, e, f)
			}
		}
		if e == api.ErrFull {
			goesOn(t, d, blocks, b)
		}
	}
}

// goesOn tells whether a journal on a full disk goes on as if it had not been asked.
func goesOn(t *testing.T, d *disk.Disk, blocks []api.Block, b api.Block) {
	t.Helper()
	j := opened(t, d)
	before := d.Copy()
	for range 2 {
		if e := j.Append(b); e != api.ErrFull {
			t.Fatalf("Append on a full disk: %v", e)
		}
		sameDisks(t, "ErrFull", d, before)
		tells(t, "ErrFull", j, blocks)
	}
	tells(t, "ErrFull, opened again", opened(t, d.Copy()), blocks)
	// What needs less may still be appended.
	less := behind(blocks, drop(1))
	e := j.Append(less)
	if want := chapterLay(before, blocks, less); e != want {
		t.Errorf("Append of less: %v, want %v", e, want)
	}
	if e == api.OK {
		tells(t, "less", j, append(slices.Clone(blocks), less))
	}
	sameDisks(t, "less", d, before)
}

// A redaction may free the room for what comes behind it.
func TestRoomIsFreed(t *testing.T) {
	before := [][]api.Entry{entries(revision(1, text(letters(1000)))), entries(revision(2, num(1)))}
	probe, _, _ := grown(t, room, before...)
	d, j, blocks := grown(t, probe.Used()+200, before...)
	great := func() api.Block { return behind(blocks, revision(3, text(letters(900)))) }
	if e := j.Append(great()); e != api.ErrFull {
		t.Fatal(e)
	}
	b := behind(blocks, redaction(0, 0))
	if e := j.Append(b); e != api.OK {
		t.Fatal(e)
	}
	blocks = chapterWith(blocks, b)
	b = great()
	if e := j.Append(b); e != api.OK {
		t.Fatal(e)
	}
	tells(t, "behind a redaction", opened(t, d), chapterWith(blocks, b))
}

// TestNoRoomForFiles: a disk has no more than so many files.
func TestNoRoomForFiles(t *testing.T) {
	before := [][]api.Entry{entries(revision(1, secret("a")), revision(2, secret("bb"))), entries(revision(4, secret("dddd")), revision(5, secret("eeeee")))}
	d, _, blocks := grown(t, room, before...)
	b := behind(blocks, redaction(0, 0), redaction(1, 0), revision(7, num(7)))
	for i := range api.MaxFiles - 3 - len(d.List()) {
		must(d.Append(fmt.Sprint("f", i), nil))
	}
	for n := range 4 {
		c := d.Copy()
		for i := range n {
			must(c.Append(fmt.Sprint("more", i), nil))
		}
		twin, kept := c.Copy(), c.Copy()
		j := opened(t, c)
		e, f := j.Append(b), chapterLay(twin, blocks, b)
		sameDisks(t, "many files", c, twin)
		if e != f || (e == api.ErrFull) != (n > 0) {
			t.Errorf("with %d files more: %v, want %v", n, e, f)
		}
		if e == api.ErrFull {
			sameDisks(t, "too many files", c, kept)
			tells(t, "too many files", j, blocks)
			goesOn(t, c, blocks, b)
		}
	}
	// The file journal itself may have no room.
	full := newDisk(t, room)
	for i := range api.MaxFiles {
		must(full.Append(fmt.Sprint("f", i), nil))
	}
	j := opened(t, full)
	if e := j.Append(behind(nil, drop(1))); e != api.ErrFull || hasFile(full, "journal") {
		t.Errorf("Append with no room for journal: %v", e)
	}
	must(full.Remove("f7"))
	if e := j.Append(behind(nil, revision(1, num(1)))); e != api.ErrFull || len(full.List()) != api.MaxFiles-1 {
		t.Errorf("Append with room for one file: %v", e)
	}
	if e := j.Append(behind(nil, drop(1))); e != api.OK {
		t.Errorf("Append with room for one file: %v", e)
	}
}

// P12.1: any other error of the disk

func TestErrorsOfTheDisk(t *testing.T) {
	// A file that is gone from under the journal can't be Removed or Renamed.
	for _, l := range [][]api.Entry{entries(redaction(0, 0)), entries(redaction(0, 0), redaction(2, 0))} {
		d, j, blocks := grown(t, room, entries(revision(1, num(1))), entries(drop(1)), entries(revision(1, num(2)), revision(2, num(3))))
		must(d.Remove("d00000000"))
		b, twin := behind(blocks, l...), d.Copy()
		if e := j.Append(b); e != api.ErrNone || chapterLay(twin, blocks, b) != e {
			t.Fatalf("Append where a file is gone: %v", e)
		}
		sameDisks(t, "where a file is gone", d, twin)
		isDead(t, d, j, blocks, b)
	}
	// A journal that Open did not make has no disk.
	j := &Journal{}
	tells(t, "no journal", j, nil)
	b := behind(nil, revision(1, num(1)))
	if e := j.Append(behind(nil, statement(""))); e != api.ErrForm {
		t.Errorf("Append of what is none without a disk: %v", e)
	}
	if e := j.Append(b); e != api.ErrArg {
		t.Errorf("Append without a disk: %v", e)
	}
	if e := j.Append(b); e != api.ErrDead {
		t.Errorf("Append again without a disk: %v", e)
	}
	// Nor has one over a disk that New did not make.
	j = opened(t, &disk.Disk{})
	tells(t, "no disk", j, nil)
	if e := j.Append(b); e != api.ErrArg {
		t.Errorf("Append on no disk: %v", e)
	}
	if e := j.Append(behind(nil, drop(1))); e != api.ErrDead {
		t.Errorf("Append again on no disk: %v", e)
	}
}

// P12.5: a nil Journal

func TestNilJournal(t *testing.T) {
	var j *Journal
	for _, b := range []api.Block{{}, behind(nil, drop(1)), behind(nil, statement(""))} {
		if e := j.Append(b); e != api.ErrArg {
			t.Errorf("Append = %v", e)
		}
	}
	for _, i := range []int{-1, 0, 1, math.MaxInt, math.MinInt} {
		if b, e := j.Block(i); e != api.ErrNone || !sameBlock(b, api.Block{}) {
			t.Errorf("Block(%d) = %v, %v", i, b, e)
		}
		if j.Gone(api.Address{Block: i, Entry: i}) {
			t.Errorf("Gone(%d, %d)", i, i)
		}
	}
	if j.Size() != 0 || j.Last() != (api.Hash{}) || j.Digest() != (api.Digest{}) || len(j.Hashes()) != 0 {
		t.Errorf("a nil Journal: %d, %x, %v, %v", j.Size(), j.Last(), j.Digest(), j.Hashes())
	}
}

// The chapter's example.
func TestExample(t *testing.T) {
	d, j, _ := grown(t, room, entries(revision(1, secret("s"))))
	a, _ := j.Block(0)
	before, _ := block.Hash(a)
	if e := j.Append(behind([]api.Block{a}, redaction(0, 0))); e != api.OK {
		t.Fatal(e)
	}
	j = opened(t, d)
	b, e := j.Block(0)
	h, _ := block.Hash(b)
	if e != api.OK || !b.Entries[0].Gone || h != before || j.Hashes()[0] != before || !j.Gone(api.Address{}) {
		t.Errorf("%v, %v", b, e)
	}
}
