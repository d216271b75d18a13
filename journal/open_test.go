package journal

import (
	"fmt"
	"maps"
	"slices"
	"strings"
	"testing"

	"scrivener/api"
	"scrivener/block"
	"scrivener/codec"
	"scrivener/disk"
)

// P12.2: Open

// opens opens a disk and holds the answer, and what was done, against the chapter's.
func opens(t *testing.T, what string, d *disk.Disk, want api.Errno) []api.Block {
	t.Helper()
	blocks, e := opensAsTheChapter(t, what, d)
	if e != want {
		t.Fatalf("%s: Open = %v, want %v", what, e, want)
	}
	return blocks
}

func opensAsTheChapter(t *testing.T, what string, d *disk.Disk) ([]api.Block, api.Errno) {
	t.Helper()
	before, twin := d.Copy(), d.Copy()
	j, e := Open(d)
	blocks, f := chapterOpen(twin)
	if e != f {
		t.Fatalf("%s: Open = %v, the chapter's %v", what, e, f)
	}
	sameDisks(t, what, d, twin)
	if e == api.OK {
		tells(t, what, j, blocks)
		return blocks, e
	}
	if j != nil {
		t.Errorf("%s: Open told a journal beside %v", what, e)
	}
	// A disk whose journal is refused stays as it is.
	if e != api.ErrFull && e != api.ErrDead {
		sameDisks(t, what, d, before)
	}
	return nil, e
}

func TestOpenOfNothing(t *testing.T) {
	if j, e := Open(nil); j != nil || e != api.ErrArg {
		t.Errorf("Open(nil) = %v, %v", j, e)
	}
	d := newDisk(t, 0)
	if blocks := opens(t, "an empty disk", d, api.OK); len(blocks) != 0 || len(d.List()) != 0 {
		t.Errorf("an empty disk: %v, %q", blocks, d.List())
	}
	d.Fuse(0)
	opens(t, "an empty disk with a burnt fuse", d, api.OK)
	d = laid(t, map[string]string{"journal": ""})
	if blocks := opens(t, "an empty file", d, api.OK); len(blocks) != 0 || len(d.List()) != 1 {
		t.Errorf("an empty file: %v, %q", blocks, d.List())
	}
}

// A journal that lacks nothing is opened without anything being done on its disk.
func TestOpenDoesNothing(t *testing.T) {
	for n := range len(story()) + 1 {
		d, _, blocks := grown(t, room, story()[:n]...)
		d.Fuse(0)
		before := d.Copy()
		tells(t, "opened", opened(t, d), blocks)
		sameDisks(t, "opened", d, before)
	}
}

// Other files are left alone: those of other layers, and names that are none of the journal's.
func TestOpenLeavesOtherFiles(t *testing.T) {
	files := chapterFiles(chain(story()...))
	other := map[string]string{}
	for _, name := range []string{"a", "o00000001", "d", "d0", "d0000009", "d000000090", "d+0000009", "d-0000001", "D00000009", "d0000000x", "d00000009x", "~d00000009", "d00000009~x", "journals", "xjournal", "e00000009", "d 0000009", "d100000000", "d123456789", "d-1234567"} {
		other[name] = "of others " + name
	}
	d := laid(t, files)
	for name, s := range other {
		must(d.Append(name, []byte(s)))
	}
	maps.Copy(files, other)
	opens(t, "other files", d, api.OK)
	if got := filesOf(d); !maps.Equal(got, files) {
		t.Errorf("the files are %q, want %q", got, files)
	}
}

// What was cut off, at each length, and what is spoilt in the last record.
func TestOpenTorn(t *testing.T) {
	for n := range len(story()) {
		blocks := chain(story()[:n]...)
		files, b := chapterFiles(blocks), behind(blocks, statement("torn"), drop(3))
		last := chapterRecord(bareBytes(b))
		for cut := range len(last) {
			d := laid(t, with(files, "journal", files["journal"]+string(last[:cut])))
			if got := opens(t, "torn", d, api.OK); len(got) != n {
				t.Fatalf("cut at %d: %d blocks", cut, len(got))
			}
			if got := filesOf(d); got["journal"] != files["journal"] {
				t.Errorf("cut at %d: journal has %d bytes, want %d", cut, len(got["journal"]), len(files["journal"]))
			}
			spoilt := slices.Clone(last)
			spoilt[cut] ^= 1 << (cut % 8)
			d = laid(t, with(files, "journal", files["journal"]+string(spoilt)+string(last)))
			if got := opens(t, "spoilt", d, api.OK); len(got) != n {
				t.Fatalf("spoilt at %d: %d blocks", cut, len(got))
			}
		}
		d := laid(t, with(files, "journal", files["journal"]+string(last)))
		if got := opens(t, "whole", d, api.OK); len(got) != n+1 {
			t.Fatalf("whole: %d blocks", len(got))
		}
	}
}

// Behind what was torn the journal goes on.
func TestAppendBehindTorn(t *testing.T) {
	blocks := chain(story()...)
	files := chapterFiles(blocks)
	d := laid(t, with(files, "journal", files["journal"]+"torn", chapterName(len(blocks)), "left over"))
	j := opened(t, d)
	b := behind(blocks, revision(1, num(1)), redaction(2, 4))
	if e := j.Append(b); e != api.OK {
		t.Fatal(e)
	}
	tells(t, "behind torn", j, chapterWith(blocks, b))
	tells(t, "behind torn, opened again", opened(t, d), chapterWith(blocks, b))
	if got, want := filesOf(d), chapterFiles(chapterWith(blocks, b)); !maps.Equal(got, want) {
		t.Errorf("the files are %q, want %q", got, want)
	}
}

// recordsOf is a file journal of these bytes, each as a record.
func recordsOf(each ...[]byte) string {
	var out []byte
	for _, p := range each {
		out = append(out, chapterRecord(p)...)
	}
	return string(out)
}

// unlike are blocks of which the last one does not come behind the others, and Open's error of it.
func unlike() []refusal {
	good := chain(entries(drop(1)), entries(statement("s"), table(1)), entries(indexed(1)))
	ahead := good[:2]
	withTime := func(n int) func(b *api.Block) { return func(b *api.Block) { b.Time = n } }
	index := func(n int) func(b *api.Block) { return func(b *api.Block) { b.Index = n } }
	prev := func(b *api.Block) { b.Prev[0] ^= 1 }
	ahead[1].Time = 7
	l := entries(indexed(1))
	var out []refusal
	add := func(e api.Errno, what string, turns ...func(b *api.Block)) {
		out = append(out, refusal{what, turned(ahead, l, turns...), e})
	}
	add(api.OK, "the same Time", withTime(7))
	add(api.OK, "a later Time", withTime(1<<53))
	add(api.ErrForm, "an earlier Time", withTime(6))
	add(api.ErrForm, "Time 0", withTime(0))
	for _, n := range []int{0, 1, 3, 4, 1 << 31} {
		add(api.ErrForm, fmt.Sprint("Index ", n), index(n), withTime(7))
		add(api.ErrForm, fmt.Sprint("Index and Prev ", n), index(n), prev, withTime(7))
		add(api.ErrForm, fmt.Sprint("Index and Time ", n), index(n), withTime(6))
	}
	add(api.ErrDigest, "Prev", prev, withTime(7))
	add(api.ErrDigest, "Prev's end", func(b *api.Block) { b.Prev[31] ^= 128 }, withTime(7))
	add(api.ErrDigest, "no Prev", func(b *api.Block) { b.Prev = api.Hash{} }, withTime(7))
	// ErrDigest is ahead of the Time's ErrForm.
	add(api.ErrDigest, "Prev and Time", prev, withTime(6))
	return out
}

func TestOpenBlocksThatAreUnlike(t *testing.T) {
	ahead := chain(entries(drop(1)), entries(statement("s"), table(1)))
	ahead[1].Time = 7
	first, second := bareBytes(ahead[0]), bareBytes(ahead[1])
	for _, x := range unlike() {
		b := x.b
		h, _ := block.Hash(ahead[1])
		if b.Prev == h || x.e == api.ErrDigest || strings.Contains(x.what, "Prev") {
			opens(t, x.what, laid(t, map[string]string{"journal": recordsOf(first, second, bareBytes(b))}), x.e)
		} else {
			t.Fatalf("%s has another Prev", x.what)
		}
		// What comes first is told: behind it stands what does not Decode, ahead of it is what lacks its Data.
		if x.e != api.OK {
			opens(t, x.what+", and one that is none", laid(t, map[string]string{"journal": recordsOf(first, second, bareBytes(b), nil)}), x.e)
			opens(t, x.what+", and torn", laid(t, map[string]string{"journal": recordsOf(first, second, bareBytes(b)) + "torn", "d00000003": "left", "x~": ""}), x.e)
		}
	}
	// The first block comes behind none.
	b := behind(nil, drop(1))
	b.Prev[3] = 1
	opens(t, "Prev of the first", laid(t, map[string]string{"journal": recordsOf(bareBytes(b))}), api.ErrDigest)
	b = behind(nil, drop(1))
	b.Index = 1
	opens(t, "Index of the first", laid(t, map[string]string{"journal": recordsOf(bareBytes(b))}), api.ErrForm)
	b.Index, b.Time = 0, 1<<53
	opens(t, "Time of the first", laid(t, map[string]string{"journal": recordsOf(bareBytes(b))}), api.OK)
}

// Records that hold what is no block, or a block with Data.
func TestOpenRecordsThatAreNone(t *testing.T) {
	blocks := chain(entries(drop(1)), entries(statement("s")))
	first, second := bareBytes(blocks[0]), bareBytes(blocks[1])
	b := behind(blocks, revision(1, num(5)), drop(1))
	withData, _ := block.Encode(b, true)
	wrongHash := slices.Clone(withData)
	wrongHash[len(wrongHash)-8] ^= 2 // Data's last byte
	noEntry := slices.Clone(second)
	noEntry[35] = 0
	badKind := slices.Clone(second)
	badKind[36] = 8
	for _, x := range []struct {
		what string
		p    []byte
		e    api.Errno
	}{
		{"nothing", nil, api.ErrShort}, {"one byte", []byte{0}, api.ErrShort}, {"cut short", second[:len(second)-1], api.ErrShort}, {"something behind", append(slices.Clone(second), 0), api.ErrForm},
		{"no entry", noEntry[:36], api.ErrArg}, {"an entry that is none", badKind, api.ErrForm}, {"Data", withData, api.ErrForm}, {"Data of another Hash", wrongHash, api.ErrDigest},
		{"a number that is none", []byte{0x80, 0}, api.ErrForm}, {"too long", slices.Repeat([]byte{0}, api.MaxBlock+1), api.ErrForm},
	} {
		_, e := block.Decode(x.p)
		if x.what != "Data" && e != x.e || x.what == "Data" && e != api.OK {
			t.Fatalf("%s: Decode = %v", x.what, e)
		}
		journal := recordsOf(first, second, x.p)
		opens(t, x.what, laid(t, map[string]string{"journal": journal}), x.e)
		opens(t, x.what+", and others", laid(t, map[string]string{"journal": journal + recordsOf(nil) + "torn", "d00000007": "", "d00000002~": "", "y~": "y"}), x.e)
		opens(t, x.what+" first of all", laid(t, map[string]string{"journal": recordsOf(x.p, first)}), map[bool]api.Errno{true: api.ErrForm, false: x.e}[x.what == "Data"])
	}
	// What stands in a record as Data is ErrForm ahead of Prev and Time, whatever else stands there.
	for _, turn := range []func(b *api.Block){func(b *api.Block) { b.Prev = api.Hash{7} }, func(b *api.Block) { b.Prev[1]++; b.Time = 0 }, func(b *api.Block) { b.Index = 9 }} {
		x := behind(blocks, drop(1), revision(1, num(5)))
		turn(&x)
		p, _ := block.Encode(x, true)
		opens(t, "Data and more", laid(t, map[string]string{"journal": recordsOf(first, second, p)}), api.ErrForm)
	}
}

// What stands behind a record with Data, a Revision without, does not help.
func TestOpenRecordWithSomeData(t *testing.T) {
	b := behind(nil, revision(1, num(5)), revision(2, num(6)), drop(1))
	for _, l := range [][]int{{0}, {1}, {0, 1}} {
		x := without(without([]api.Block{b}, api.Address{Entry: 0}), api.Address{Entry: 1})[0]
		for _, i := range l {
			x.Entries[i] = b.Entries[i]
		}
		p, e := block.Encode(x, true)
		if e != api.OK {
			t.Fatal(e)
		}
		opens(t, "some Data", laid(t, map[string]string{"journal": recordsOf(p), "d00000000": string(chapterData(b))}), api.ErrForm)
	}
	opens(t, "no Data", laid(t, map[string]string{"journal": recordsOf(bareBytes(b)), "d00000000": string(chapterData(b))}), api.OK)
}

// part is a data file's bytes of one entry, whatever these are.
func rawPart(place int, data string) string {
	return string(cat(uv(place), uv(len(data)), []byte(data)))
}

func encoded(v api.Value) string {
	b, _ := codec.Encode(v)
	return string(b)
}

func TestOpenDataFilesThatAreNone(t *testing.T) {
	two, four := secret("two"), secret("four")
	blocks := chain(entries(drop(1)), entries(statement("s"), revision(1, two), drop(1), revision(2, four)), entries(revision(3, num(3))))
	files := chapterFiles(blocks)
	good := files["d00000001"]
	framed := func(parts ...string) string { return string(chapterRecord([]byte(strings.Join(parts, "")))) }
	a, b := rawPart(1, encoded(two)), rawPart(3, encoded(four))
	if good != framed(a, b) {
		t.Fatal("the data file is another")
	}
	spoilt := []byte(good)
	spoilt[len(spoilt)/2] ^= 1
	for _, x := range []struct {
		what, file string
		e          api.Errno
	}{
		{"not there", "-", api.ErrForm}, {"empty", "", api.ErrForm}, {"no record", "x", api.ErrForm}, {"cut short", good[:len(good)-1], api.ErrForm}, {"something behind", good + "x", api.ErrForm},
		{"two records", good + good, api.ErrForm}, {"two records, one part each", framed(a) + framed(b), api.ErrForm}, {"an empty record behind", good + framed(), api.ErrForm}, {"spoilt", string(spoilt), api.ErrForm},
		{"a record of nothing", framed(), api.ErrForm}, {"no part of the first", framed(b), api.ErrForm}, {"no part of the second", framed(a), api.ErrForm}, {"of other places", framed(rawPart(0, encoded(two)), rawPart(2, encoded(four))), api.ErrForm},
		{"the other way round", framed(rawPart(1, encoded(four)), rawPart(3, encoded(two))), api.ErrDigest}, {"another value", framed(a, rawPart(3, encoded(num(1)))), api.ErrDigest}, {"another value first", framed(rawPart(1, encoded(num(1))), b), api.ErrDigest},
		{"no value", framed(a, rawPart(3, "\x0a")), api.ErrForm}, {"no bytes", framed(a, rawPart(3, "")), api.ErrForm}, {"a value and more", framed(a, rawPart(3, encoded(four)+"\x01")), api.ErrForm}, {"a value cut short", framed(a, rawPart(3, encoded(four)[:9])), api.ErrForm},
		{"a value that is refused", framed(a, rawPart(3, "\x04\x28\x01")), api.ErrForm}, {"a value too deep", framed(a, rawPart(3, strings.Repeat("\x08\x01", 16)+"\x01")), api.ErrForm},
		{"cut short within a part", framed(a, b[:len(b)-1]), api.ErrForm}, {"cut short behind a place", framed(a, b[:1]), api.ErrForm}, {"cut short behind a length", framed(a, b[:2]), api.ErrForm}, {"a byte behind", framed(a, b, "\x05"), api.ErrForm}, {"a length that is none", framed(a, b, "\x05\x80\x00"), api.ErrForm}, {"a place that is none", framed(a, b, "\x80\x00\x00"), api.ErrForm},
		{"a length beyond all", framed(a, b, "\x05\xff\xff\xff\xff\xff\xff\xff\xff\xff\x01"), api.ErrForm}, {"a place of too many bytes", framed(a, b, strings.Repeat("\xff", 11)), api.ErrForm},
		// The first error is told: that of the entry which stands first.
		{"another Hash first, none behind", framed(rawPart(1, encoded(num(1)))), api.ErrDigest}, {"none first, another Hash behind", framed(rawPart(3, encoded(num(1)))), api.ErrForm}, {"no value first", framed(rawPart(1, ""), rawPart(3, encoded(num(1)))), api.ErrForm},
		// Each Revision's Data are there: what else stands there is not asked for.
		{"as it is", good, api.OK}, {"other order", framed(b, a), api.OK}, {"parts of no Revision", framed(rawPart(0, "x"), a, rawPart(2, ""), b, rawPart(4, encoded(num(1))), rawPart(200, "x"), rawPart(1<<20, "")), api.OK}, {"a great place", framed(a, b, "\xff\xff\xff\xff\xff\xff\xff\xff\xff\x01\x00"), api.OK},
		{"a place beyond all ints", framed("\x81\x80\x80\x80\x80\x80\x80\x80\x80\x01"+"\x00", a, b), api.OK},
		{"twice, the first is taken", framed(a, b, rawPart(1, "")), api.OK}, {"twice, the other is taken", framed(rawPart(3, encoded(num(1))), a, b), api.ErrDigest},
	} {
		d := laid(t, with(files, "d00000001", x.file))
		opens(t, x.what, d, x.e)
		if got := filesOf(d); x.e == api.OK && got["d00000001"] != x.file {
			t.Errorf("%s: the data file was written anew", x.what)
		}
		// Blocks ahead are told first; what is torn or left over stays, if the journal is refused.
		opens(t, x.what+" and one behind", laid(t, with(files, "d00000001", x.file, "d00000002", framed(rawPart(0, encoded(num(4)))), "d00000009", "x", "x~", "")), max(x.e, map[bool]api.Errno{true: api.ErrDigest}[x.e == api.OK]))
	}
}

// Records are looked at ahead of data files.
func TestOpenRecordsAheadOfData(t *testing.T) {
	blocks := chain(entries(revision(1, num(1))), entries(drop(1)))
	blocks[1].Prev[0] ^= 1
	opens(t, "Prev and no Data", laid(t, map[string]string{"journal": recordsOf(bareBytes(blocks[0]), bareBytes(blocks[1]))}), api.ErrDigest)
	opens(t, "no Data", laid(t, map[string]string{"journal": recordsOf(bareBytes(blocks[0]))}), api.ErrForm)
}

// Data files of blocks that have no Revision are not asked for.
func TestOpenDataFileOfNoRevision(t *testing.T) {
	blocks := chain(entries(drop(1)), entries(revision(1, num(1))))
	files := with(chapterFiles(blocks), "d00000000", "what is none")
	d := laid(t, files)
	opens(t, "of no Revision", d, api.OK)
	if got := filesOf(d); !maps.Equal(got, files) {
		t.Errorf("the files are %q", got)
	}
}

// TestStepsOfOpen: what Open does on the disk, thing by thing, and byte by byte behind each.
func TestStepsOfOpen(t *testing.T) {
	whole := chain(story()...)
	files := chapterFiles(whole)
	n := len(files["journal"])
	then := chapterFiles(chain(story()[:4]...)) // nothing is redacted
	rest := len(files["d00000002"])
	of := func(more ...string) map[string]string { return with(files, more...) }
	for _, x := range []struct {
		what  string
		files map[string]string
		loose string // the file that does not last
		want  string
	}{
		{"nothing", files, "", ""},
		{"torn", of("journal", files["journal"]+"torn"), "", fmt.Sprint("truncate journal ", n, ", nothing")},
		{"torn, and not lasting", of("journal", files["journal"]+"torn"), "journal", fmt.Sprint("truncate journal ", n, ", sync journal")},
		{"not lasting", files, "journal", "sync journal"},
		{"data that do not last", files, "d00000002", ""},
		{"left over", of("d00000007", "x", "d00000008", "", "d99999999", "y", "d00000001~", "z", "a~", "", "~", "1", "journal~", "j", "d00000007~", "2"), "", "remove a~, remove d00000001~, remove d00000007, remove d00000007~, remove d00000008, remove d99999999, remove journal~, remove ~"},
		{"a redaction", of("d00000002", then["d00000002"]), "", fmt.Sprint("append d00000002~ ", rest, ", sync d00000002~, rename d00000002~ d00000002")},
		{"a redaction of the last Data", of("d00000001", then["d00000001"]), "", "remove d00000001"},
		{"redactions, with shadows there", of("d00000001", then["d00000001"], "d00000002", then["d00000002"], "d00000002~", files["d00000002"], "d00000001~", "x"), "", fmt.Sprint("remove d00000001~, remove d00000002~, remove d00000001, append d00000002~ ", rest, ", sync d00000002~, rename d00000002~ d00000002")},
		{"all at once", of("d00000001", then["d00000001"], "d00000002", then["d00000002"], "d00000002~", "x", "d00000008", "y", "journal", files["journal"]+"torn"), "journal", fmt.Sprint("truncate journal ", n, ", sync journal, remove d00000002~, remove d00000008, remove d00000001, append d00000002~ ", rest, ", sync d00000002~, rename d00000002~ d00000002")},
	} {
		d := laid(t, with(x.files, x.loose, "-"))
		if x.loose != "" {
			must(d.Append(x.loose, []byte(x.files[x.loose])))
		}
		opening := func(d *disk.Disk, fuse int) api.Errno {
			d.Fuse(fuse)
			j, e := Open(d)
			if (j != nil) != (e == api.OK) {
				t.Errorf("%s: %v, %v", x.what, j, e)
			}
			if e == api.OK {
				tells(t, x.what, j, whole)
			}
			return e
		}
		trace, e := traced(t, d, opening)
		if got := strings.Join(trace, ", "); got != x.want || e != api.OK {
			t.Errorf("%s: %v\n%s, want\n%s", x.what, e, got, x.want)
		}
		for fuse := range len(trace) + 1 {
			got, twin := d.Copy(), d.Copy()
			e := opening(got, fuse)
			twin.Fuse(fuse)
			if _, f := chapterOpen(twin); e != f {
				t.Errorf("%s, fuse %d: %v, want %v", x.what, fuse, e, f)
			}
			sameDisks(t, fmt.Sprint(x.what, " behind step ", fuse), got, twin)
		}
		opened(t, d)
		if got := filesOf(d); !maps.Equal(got, files) {
			t.Errorf("%s: the files are %q, want %q", x.what, got, files)
		}
	}
}

// A single byte that does not last is enough for a Crash to take the last block.
func TestOpenLastByteNotLasting(t *testing.T) {
	blocks := chain(story()...)
	files := chapterFiles(blocks)
	all := []byte(files["journal"])
	d := laid(t, with(files, "journal", string(all[:len(all)-1])))
	must(d.Append("journal", all[len(all)-1:]))
	tells(t, "the last byte", opened(t, d), blocks)
	d.Crash(0)
	tells(t, "behind a Crash", opened(t, d), blocks)
}

// Several data files are written anew by the Indexes of their blocks, one behind the other: each is freed ahead of the next.
func TestStepsOfOpenWithSeveralShadows(t *testing.T) {
	each := [][]api.Entry{entries(revision(1, secret("a")), revision(2, secret("aa"))), entries(revision(1, secret("b")), revision(2, secret("bb"))), entries(revision(1, secret("c")))}
	then := chapterFiles(chain(each...))
	each = append(each, entries(redaction(1, 0), redaction(2, 0), redaction(0, 1)))
	files := chapterFiles(chain(each...))
	d := laid(t, with(then, "journal", files["journal"]))
	trace, e := traced(t, d, func(d *disk.Disk, fuse int) api.Errno {
		d.Fuse(fuse)
		_, e := Open(d)
		return e
	})
	want := fmt.Sprint("append d00000000~ ", len(files["d00000000"]), ", sync d00000000~, rename d00000000~ d00000000, append d00000001~ ", len(files["d00000001"]), ", sync d00000001~, rename d00000001~ d00000001, remove d00000002")
	if got := strings.Join(trace, ", "); got != want || e != api.OK {
		t.Errorf("%v\n%s, want\n%s", e, got, want)
	}
}

// A shadow for which there is no room: the disk's error, and nothing is lost.
func TestOpenWithoutRoom(t *testing.T) {
	blocks := chain(story()...)
	files := chapterFiles(blocks)
	old := chapterFiles(chain(story()[:4]...))
	files = with(files, "d00000002", old["d00000002"], "x~", letters(10), "of others", "x")
	used := 0
	for _, s := range files {
		used += len(s)
	}
	rest := len(chapterData(blocks[2]))
	for more, want := range map[int]api.Errno{rest - 11: api.ErrFull, rest - 10: api.OK} {
		d := newDisk(t, used+more)
		for name, s := range files {
			must(d.Append(name, []byte(s)))
			must(d.Sync(name))
		}
		opens(t, "without room", d, want)
		if want != api.OK {
			must(d.Remove("of others"))
			tells(t, "with room again", opened(t, d), blocks)
		}
	}
}

// What EntryRedacts name is Gone, wherever it stands; what names nothing is nothing.
func TestOpenRedactions(t *testing.T) {
	chained := func(each ...[]api.Entry) []api.Block {
		var blocks []api.Block
		for _, l := range each {
			blocks = append(blocks, behind(blocks, l...))
		}
		return blocks
	}
	for _, x := range []struct {
		what string
		each [][]api.Entry
		gone []api.Address
	}{
		{"itself", [][]api.Entry{entries(redaction(0, 0))}, nil},
		{"what is not there", [][]api.Entry{entries(redaction(7, 0), redaction(0, 7), redaction(1<<31, 1<<31), redaction(0, 200), redaction(1, 1)), entries(revision(1, num(1)))}, nil},
		{"what is no Revision", [][]api.Entry{entries(statement("s"), revision(1, num(1)), deletion(1)), entries(redaction(0, 0), redaction(0, 2), redaction(0, 3), redaction(1, 0), redaction(1, 1))}, nil},
		{"one twice", [][]api.Entry{entries(statement("s"), revision(1, num(1)), revision(2, num(2))), entries(redaction(0, 1), redaction(0, 1)), entries(redaction(0, 1))}, []api.Address{{Block: 0, Entry: 1}}},
		{"one of its own, ahead and behind", [][]api.Entry{entries(revision(1, num(1)), redaction(0, 0), redaction(0, 2), revision(2, num(2)), revision(3, num(3))), entries(drop(1))}, []api.Address{{Block: 0, Entry: 0}}},
		{"one of its own behind", [][]api.Entry{entries(redaction(0, 1), revision(2, secret("own"))), entries(drop(1))}, []api.Address{{Block: 0, Entry: 1}}},
		{"one of a later block", [][]api.Entry{entries(redaction(1, 0)), entries(revision(1, num(1)))}, nil},
		{"one of a later block, and it again", [][]api.Entry{entries(redaction(1, 0)), entries(revision(1, num(1))), entries(redaction(1, 0))}, []api.Address{{Block: 1}}},
	} {
		blocks := chained(x.each...)
		before := chapterFiles(blocks)
		for _, a := range x.gone {
			blocks = without(blocks, a)
		}
		after := chapterFiles(blocks)
		for _, files := range []map[string]string{before, after} {
			d := laid(t, files)
			opens(t, x.what, d, api.OK)
			tells(t, x.what, opened(t, d), blocks)
			if got := filesOf(d); !maps.Equal(got, after) {
				t.Errorf("%s: the files are %q, want %q", x.what, got, after)
			}
		}
	}
}

// An EntryRedact that names nothing stays nothing when a Revision comes to stand there.
func TestRedactionOfWhatComesLater(t *testing.T) {
	blocks := []api.Block{behind(nil, redaction(1, 0), redaction(0, 5))}
	d := laid(t, chapterFiles(blocks))
	j := opened(t, d)
	b := behind(blocks, revision(1, secret("later")))
	if e := j.Append(b); e != api.OK {
		t.Fatal(e)
	}
	blocks = append(blocks, b)
	tells(t, "later", j, blocks)
	tells(t, "later, opened again", opened(t, d), blocks)
}

// A data file that can't be read, of a block all of whose Revisions are Gone: it may hold what is redacted.
func TestOpenRemovesWhatMayHoldRedactedData(t *testing.T) {
	blocks := chain(entries(revision(1, secret("hidden"))), entries(redaction(0, 0)))
	files := chapterFiles(blocks)
	old := string(chapterData(behind(nil, revision(1, secret("hidden")))))
	for _, s := range []string{old, old + "x", old + old, old[1:], old[:len(old)-1], "", "x", string(chapterRecord([]byte{0})), string(chapterRecord([]byte(rawPart(0, "")))), string(chapterRecord([]byte(rawPart(3, "") + rawPart(0, "hidden")))), string(chapterRecord([]byte(rawPart(0, "hidden") + rawPart(0, "hidden"))))} {
		d := laid(t, with(files, "d00000000", s))
		opens(t, "what may hold redacted data", d, api.OK)
		if got := filesOf(d); !maps.Equal(got, files) {
			t.Errorf("the files are %q, want %q", got, files)
		}
	}
	// Nothing redacted stands in one that can be read.
	for _, s := range []string{string(chapterRecord(nil)), string(chapterRecord([]byte(rawPart(3, "kept"))))} {
		d := laid(t, with(files, "d00000000", s))
		opens(t, "what holds none", d, api.OK)
		if got := filesOf(d); !maps.Equal(got, with(files, "d00000000", s)) {
			t.Errorf("the files are %q", got)
		}
	}
}

// Data that are more than a block with them may have can lie on a disk; no error of Open is for them.
func TestOpenMoreDataThanABlockTakes(t *testing.T) {
	var l []api.Entry
	for i := range 24 {
		l = append(l, revision(1+i, text(letters(1<<14-i))))
	}
	bare := slices.Clone(l)
	for i := range bare {
		bare[i].Gone, bare[i].Data = true, api.Value{}
	}
	b, whole := behind(nil, bare...), behind(nil, l...)
	d := laid(t, map[string]string{"journal": recordsOf(bareBytes(b)), "d00000000": string(chapterData(whole))})
	j := opened(t, d)
	if got, e := j.Block(0); e != api.OK || !sameBlock(got, whole) {
		t.Fatalf("Block(0): %v", e)
	}
	h, _ := block.Hash(b)
	next := api.Block{Index: 1, Prev: h, Entries: entries(redaction(0, 3), redaction(0, 5))}
	if e := j.Append(next); e != api.OK {
		t.Fatal(e)
	}
	want := without(without([]api.Block{whole}, api.Address{Entry: 3}), api.Address{Entry: 5})[0]
	for range 2 {
		if got, e := j.Block(0); e != api.OK || !sameBlock(got, want) {
			t.Fatalf("Block(0) behind a redaction: %v", e)
		}
		j = opened(t, d)
	}
	if got := filesOf(d); got["d00000000"] != string(chapterData(want)) {
		t.Error("the data file is another")
	}
}
