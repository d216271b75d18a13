package journal

import (
	"bytes"
	"fmt"
	"math/rand"
	"runtime"
	"slices"
	"strings"
	"sync"
	"testing"

	"scrivener/api"
	"scrivener/block"
	"scrivener/disk"
	"scrivener/merkle"
)

// What holds everywhere: W1 to W9, of journals and disks of all kinds.

// copyOfValue is a value in new memory.
func copyOfValue(v api.Value) api.Value {
	v.Names, v.Kids = slices.Clone(v.Names), slices.Clone(v.Kids)
	for i := range v.Kids {
		v.Kids[i] = copyOfValue(v.Kids[i])
	}
	return v
}

func copyOf(b api.Block) api.Block {
	b.Entries = slices.Clone(b.Entries)
	for i := range b.Entries {
		b.Entries[i].Data = copyOfValue(b.Entries[i].Data)
	}
	return b
}

// roomy is a value with spare room behind each list's end, in which something stands.
func roomy(v api.Value) api.Value {
	names, kids := slices.Clone(v.Names), slices.Clone(v.Kids)
	for i := range kids {
		kids[i] = roomy(kids[i])
	}
	v.Names = append(names, "spare", "room")[:len(names)]
	v.Kids = append(kids, num(77), num(78))[:len(kids)]
	return v
}

// spareOf is what stands behind the ends of a value's lists.
func spareOf(v api.Value) string {
	out := fmt.Sprint(v.Names[len(v.Names):cap(v.Names)], v.Kids[len(v.Kids):cap(v.Kids)])
	for _, kid := range v.Kids {
		out += spareOf(kid)
	}
	return out
}

// scribble writes over all of a value's lists, and behind their ends.
func scribble(v api.Value) {
	for i := range v.Kids {
		scribble(v.Kids[i])
	}
	names, kids := v.Names[:cap(v.Names)], v.Kids[:cap(v.Kids)]
	for i := range names {
		names[i] = "scribbled"
	}
	for i := range kids {
		kids[i] = text("scribbled")
	}
}

func scribbleBlock(b api.Block) {
	for _, e := range b.Entries {
		scribble(e.Data)
	}
	l := b.Entries[:cap(b.Entries)]
	for i := range l {
		l[i] = statement("scribbled")
	}
}

// documents are entries with nested Data.
func documents() []api.Entry {
	v := record("a b c", list(num(1), list(), record("x y", text("in"), num(2))), record(""), list(secret("nested"), secret("nested")))
	return entries(statement("s"), revision(1, v), revision(2, record("d e", v, v)), revision(3, list(v, v, num(3))), drop(1))
}

// P12.5: what is handed in is neither changed nor kept.
func TestAppendKeepsNothing(t *testing.T) {
	d, j, blocks := grown(t, room, documents(), entries(revision(1, num(1))))
	b := behind(blocks, append(documents(), redaction(0, 2), redaction(1, 0))...)
	for i := range b.Entries {
		b.Entries[i].Data = roomy(b.Entries[i].Data)
	}
	b.Entries = append(b.Entries, statement("spare"), drop(7))[:len(b.Entries)]
	was, spare := copyOf(b), ""
	for _, e := range b.Entries {
		spare += spareOf(e.Data)
	}
	for _, wrong := range []bool{true, false} {
		x := b
		if wrong {
			x.Txn = -1
		}
		j.Append(x)
		now := ""
		for _, e := range b.Entries {
			now += spareOf(e.Data)
		}
		behindEnd := b.Entries[:len(b.Entries)+2]
		if !sameBlock(b, was) || now != spare || !sameEntry(behindEnd[len(b.Entries)], statement("spare")) || !sameEntry(behindEnd[len(b.Entries)+1], drop(7)) {
			t.Fatalf("what was handed in is %v, was %v", b, was)
		}
	}
	scribbleBlock(b)
	tells(t, "behind a scribble", j, chapterWith(blocks, was))
	tells(t, "behind a scribble, opened again", opened(t, d), chapterWith(blocks, was))
}

// P12.5, W6: what is answered is new memory, spare room too, and no two lists of one answer share any.
func TestAnswersAreNewMemory(t *testing.T) {
	_, j, blocks := grown(t, room, documents(), entries(redaction(0, 2), revision(1, secret("other"))))
	for i, want := range blocks {
		first, _ := j.Block(i)
		second, _ := j.Block(i)
		// Each list's spare room is written to, and no other list of the answer changes.
		var each func(v api.Value)
		each = func(v api.Value) {
			for n := len(v.Kids); n < cap(v.Kids); n++ {
				v.Kids[:n+1][n] = text("spare")
			}
			for n := len(v.Names); n < cap(v.Names); n++ {
				v.Names[:n+1][n] = "spare"
			}
			for _, kid := range v.Kids {
				each(kid)
			}
		}
		for _, e := range first.Entries {
			each(e.Data)
		}
		for n := len(first.Entries); n < cap(first.Entries); n++ {
			first.Entries[:n+1][n] = statement("spare")
		}
		if !sameBlock(first, want) {
			t.Errorf("lists of Block(%d) share memory", i)
		}
		// Two kids that are alike are not one.
		for _, e := range first.Entries {
			if kids := e.Data.Kids; len(kids) > 1 && len(kids[0].Kids) > 0 {
				old := copyOfValue(kids[1])
				scribble(kids[0])
				if !alike(kids[1], old) {
					t.Errorf("Kids of Block(%d) share memory", i)
				}
			}
		}
		scribbleBlock(first)
		if !sameBlock(second, want) {
			t.Errorf("two answers of Block(%d) share memory", i)
		}
		scribbleBlock(second)
	}
	hashes, others := j.Hashes(), j.Hashes()
	for i := range hashes[:cap(hashes)] {
		hashes[:cap(hashes)][i] = api.Hash{9}
	}
	if slices.Contains(others, api.Hash{9}) {
		t.Error("two answers of Hashes share memory")
	}
	tells(t, "behind scribbles", j, blocks)
	b := behind(blocks, drop(1))
	if e := j.Append(b); e != api.OK {
		t.Fatal(e)
	}
	tells(t, "behind scribbles and one more", j, append(slices.Clone(blocks), b))
}

// W7: what was answered stays, whatever is appended later.
func TestAnswersStay(t *testing.T) {
	_, j, blocks := grown(t, room, documents(), entries(revision(1, secret("other"))))
	old := slices.Clone(blocks)
	var answers []api.Block
	for i := range blocks {
		b, _ := j.Block(i)
		answers = append(answers, b)
	}
	hashes := j.Hashes()
	was := slices.Clone(hashes)
	for _, l := range [][]api.Entry{entries(redaction(0, 1), redaction(1, 0)), entries(redaction(0, 3)), entries(revision(1, num(1))), entries(drop(1))} {
		b := behind(blocks, l...)
		if e := j.Append(b); e != api.OK {
			t.Fatal(e)
		}
		blocks = chapterWith(blocks, b)
	}
	for i, b := range answers {
		if !sameBlock(b, old[i]) {
			t.Errorf("what Block(%d) answered is now %v", i, b)
		}
	}
	if !slices.Equal(hashes, was) {
		t.Error("what Hashes answered has changed")
	}
	tells(t, "behind all", j, blocks)
}

// twins are two disks on which the same is done, one of them by the chapter.
type twins struct {
	t      *testing.T
	r      *rand.Rand
	d, own *disk.Disk
	j      *Journal
	blocks []api.Block
	dead   bool
	serial int
}

// some is entries of all kinds, with redactions of what is there, and now and then of what is not.
func (w *twins) some() []api.Entry {
	var l []api.Entry
	for range 1 + w.r.Intn(5) {
		w.serial++
		v := pickValue(w.r, w.serial)
		l = append(l, []api.Entry{statement("s"), revision(1+w.r.Intn(9), v), revision(1+w.r.Intn(9), v), drop(1), deletion(2), table(3)}[w.r.Intn(6)])
	}
	for range w.r.Intn(4) {
		at := api.Address{Block: w.r.Intn(len(w.blocks) + 1), Entry: w.r.Intn(6)}
		if w.r.Intn(12) == 0 || isRevision(w.blocks, at) && !w.blocks[at.Block].Entries[at.Entry].Gone && !slices.ContainsFunc(l, func(e api.Entry) bool { return e.Kind == api.EntryRedact && e.At == at }) {
			l = slices.Insert(l, w.r.Intn(len(l)+1), redaction(at.Block, at.Entry))
		}
	}
	return l
}

func pickValue(r *rand.Rand, serial int) api.Value {
	return []api.Value{num(serial), secret(fmt.Sprintf("hidden %d.", serial)), list(), text(strings.Repeat("v", r.Intn(90))), {Kind: api.Null}}[r.Intn(5)]
}

func (w *twins) block() api.Block {
	b := behind(w.blocks, w.some()...)
	switch w.r.Intn(20) {
	case 0:
		b.Index += w.r.Intn(3) - 1
	case 1:
		b.Prev[w.r.Intn(32)] ^= byte(w.r.Intn(2))
	case 2:
		b.Time -= w.r.Intn(3)
	case 3:
		b.Entries[0] = gone(1, api.Hash{})
	case 4:
		b.Entries[len(b.Entries)-1].Doc = -w.r.Intn(2)
	}
	return b
}

func (w *twins) append() api.Errno {
	b := w.block()
	var want api.Errno
	switch {
	case w.dead:
		want = api.ErrDead
	case chapterRefuses(w.blocks, b) != api.OK:
		want = chapterRefuses(w.blocks, b)
	default:
		want = chapterLay(w.own, w.blocks, b)
		w.dead = want != api.OK && want != api.ErrFull
	}
	if e := w.j.Append(b); e != want {
		w.t.Fatalf("Append = %v, want %v", e, want)
	}
	if want == api.OK {
		w.blocks = chapterWith(w.blocks, b)
	}
	return want
}

func (w *twins) open() api.Errno {
	j, e := Open(w.d)
	blocks, f := chapterOpen(w.own)
	if e != f {
		w.t.Fatalf("Open = %v, want %v", e, f)
	}
	if e == api.OK {
		w.j, w.blocks, w.dead = j, blocks, false
	}
	return e
}

func (w *twins) fuse(n int) {
	w.d.Fuse(n)
	w.own.Fuse(n)
}

// TestManyScripts: Appends, fuses, crashes and Opens in any order, on disks great and small, as the chapter has it.
func TestManyScripts(t *testing.T) {
	r := rand.New(rand.NewSource(12))
	met := map[string]int{}
	for n := range 400 {
		small := []int{room, 1000 + r.Intn(1500), 300}[r.Intn(3)]
		w := &twins{t: t, r: r, d: newDisk(t, small), own: newDisk(t, small)}
		w.open()
		for range 25 {
			switch k := r.Intn(12); {
			case k < 8:
				met[fmt.Sprint("Append ", int(w.append()))]++
			case k < 9:
				w.fuse(r.Intn(9) - 1)
			case k < 10:
				met[fmt.Sprint("Open ", int(w.open()))]++
			default:
				draw := r.Intn(300)
				w.d.Crash(draw)
				w.own.Crash(draw)
				e := w.open()
				met[fmt.Sprint("Crash ", int(e))]++
				if e != api.OK {
					t.Fatalf("Open behind a Crash: %v", e)
				}
			}
			sameDisks(t, fmt.Sprint("script ", n), w.d, w.own)
			tells(t, fmt.Sprint("script ", n), w.j, w.blocks)
		}
	}
	for _, k := range []string{"Append 0", "Append 1", "Append 3", "Append 6", "Append 20", "Open 0", "Open 20", "Crash 0"} {
		if met[k] < 30 {
			t.Errorf("%q came %d times: %v", k, met[k], met)
		}
	}
}

// spoil makes something of a journal's files another way: within records, too, that are whole then.
func spoil(r *rand.Rand, files map[string]string) {
	names := slices.Sorted(func(yield func(string) bool) {
		for name := range files {
			if !yield(name) {
				return
			}
		}
	})
	if len(names) == 0 {
		return
	}
	name := names[r.Intn(len(names))]
	records, good := chapterScan([]byte(files[name]))
	behind := files[name][good:]
	switch r.Intn(9) {
	case 0:
		delete(files, name)
		return
	case 1:
		files[name] = string(spoilt(r, []byte(files[name])))
		return
	case 2:
		files[fmt.Sprintf("d%08d%s", r.Intn(8), []string{"", "~"}[r.Intn(2)])] = files[name]
		return
	case 3:
		behind += "torn"
	case 4:
		if len(records) > 0 {
			i := r.Intn(len(records))
			records = slices.Delete(records, i, i+1)
		}
	case 5:
		if len(records) > 1 {
			i, j := r.Intn(len(records)), r.Intn(len(records))
			records[i], records[j] = records[j], records[i]
		}
	default:
		if len(records) > 0 {
			i := r.Intn(len(records))
			records[i] = spoilt(r, records[i])
		}
	}
	files[name] = recordsOf(records...) + behind
}

// spoilt is bytes of which some are others, missing or too many.
func spoilt(r *rand.Rand, b []byte) []byte {
	b = bytes.Clone(b)
	at := r.Intn(len(b) + 1)
	switch r.Intn(4) {
	case 0:
		b = b[:at]
	case 1:
		b = slices.Insert(b, at, byte(r.Intn(256)>>r.Intn(8)))
	case 2:
		b = slices.Delete(b, at, min(at+1, len(b)))
	case 3:
		if at < len(b) {
			b[at] = byte(r.Intn(256) >> r.Intn(8))
		}
	}
	return b
}

// unchained is blocks that Append would refuse, one behind the other: with redactions of anything.
func unchained(r *rand.Rand) []api.Block {
	w := &twins{r: r}
	for range r.Intn(6) {
		l := w.some()
		for range r.Intn(3) {
			l = append(l, redaction(r.Intn(6), r.Intn(6)))
		}
		b := behind(w.blocks, l...)
		switch r.Intn(25) {
		case 0:
			b.Index = r.Intn(7)
		case 1:
			b.Prev[r.Intn(32)] ^= 1
		case 2:
			b.Time = max(0, b.Time-10)
		}
		w.blocks = append(w.blocks, b)
	}
	return w.blocks
}

// TestManyDisks: disks with journals that are spoilt in all ways are opened as the chapter has it.
func TestManyDisks(t *testing.T) {
	r := rand.New(rand.NewSource(1212))
	met := map[api.Errno]int{}
	for n := range 6000 {
		files := chapterFiles(unchained(r))
		for range r.Intn(3) {
			spoil(r, files)
		}
		d := newDisk(t, room)
		for name, s := range files {
			must(d.Append(name, []byte(s)))
			if r.Intn(2) == 0 {
				must(d.Sync(name))
			}
		}
		_, e := opensAsTheChapter(t, fmt.Sprint("disk ", n), d)
		met[e]++
		if e == api.OK {
			// What was mended lacks nothing any more.
			d.Fuse(0)
			opens(t, "mended", d, api.OK)
		}
	}
	for e, least := range map[api.Errno]int{api.OK: 1000, api.ErrForm: 500, api.ErrDigest: 200, api.ErrShort: 50} {
		if met[e] < least {
			t.Errorf("%v came %d times: %v", e, met[e], met)
		}
	}
}

// W1: whatever stands on a disk, Open ends and does not panic, and what it takes can be asked.
func FuzzAnyBytes(f *testing.F) {
	files := chapterFiles(chain(story()...))
	for _, name := range []string{"journal", "d00000002"} {
		f.Add([]byte(files[name]), []byte("x"))
		f.Add([]byte(files[name])[8:], []byte(files["d00000005"]))
	}
	f.Add([]byte(files["journal"]), []byte(files["d00000002"])[8:len(files["d00000002"])-4])
	f.Add([]byte{}, []byte{})
	f.Fuzz(func(t *testing.T, a, b []byte) {
		if len(a)+len(b) > 1<<16 {
			return
		}
		for _, x := range []map[string]string{
			{"journal": string(a), "d00000000": string(b)},
			{"journal": recordsOf(a, b)},
			with(files, "journal", files["journal"]+recordsOf(a)+string(b)),
			with(files, "d00000002", string(a), "d00000005", string(chapterRecord(b))),
			with(files, "d00000002", string(chapterRecord(a)), "d00000009", string(b)),
		} {
			opensAsTheChapter(t, "any bytes", laid(t, x))
		}
	})
}

// W1: Blocks of all kinds, also such as are within themselves.
func TestAppendOfAnything(t *testing.T) {
	_, j, blocks := grown(t, room, story()...)
	loop := make([]api.Value, 1)
	loop[0] = api.Value{Kind: api.List, Kids: loop}
	for _, b := range []api.Block{
		behind(blocks, revision(1, loop[0])), behind(blocks, api.Entry{Kind: api.EntryRevision, Table: 1, Doc: 1, Data: loop[0], Gone: true}), behind(blocks, slices.Repeat(entries(revision(1, loop[0])), 1000)...),
		behind(blocks, statement(strings.Repeat("x", 1<<24))), behind(blocks, api.Entry{Kind: api.EntryRedact, At: api.Address{Block: -1, Entry: -1}}), behind(blocks, redaction(0, -1)), behind(blocks, redaction(-1, 0)), behind(blocks, redaction(1<<40, 1<<40)),
	} {
		if e := j.Append(b); e != chapterRefuses(blocks, b) || e == api.OK {
			t.Errorf("Append = %v, want %v", e, chapterRefuses(blocks, b))
		}
	}
	tells(t, "behind anything", j, blocks)
}

// W2: the same is answered, and written, each time, however goroutines run.
func TestTwins(t *testing.T) {
	run := func() []fileState {
		w := &twins{t: t, r: rand.New(rand.NewSource(7)), d: newDisk(t, room), own: newDisk(t, room)}
		w.open()
		for range 40 {
			w.append()
		}
		return look(w.d)
	}
	want := run()
	var all sync.WaitGroup
	for range 4 {
		all.Go(func() {
			if got := run(); !slices.Equal(got, want) {
				t.Errorf("the files are %s, want %s", shortFiles(got), shortFiles(want))
			}
		})
	}
	all.Wait()
}

// meddle asks and Fuses a disk, and Crashes it, if it may, until stop is closed.
func meddle(d *disk.Disk, r *rand.Rand, crash bool, stop chan struct{}) {
	for {
		select {
		case <-stop:
			return
		default:
		}
		switch r.Intn(4) {
		case 0:
			d.Fuse(r.Intn(6) - 1)
		case 1:
			if crash {
				d.Crash(r.Intn(50))
			}
		case 2:
			d.List()
			d.Read("journal")
		case 3:
			d.Copy().Used()
		}
		runtime.Gosched()
	}
}

// W9: others ask and Fuse the disk meanwhile: what was told OK is there. Where they Crash it, nothing panics.
func TestOthersMeanwhile(t *testing.T) {
	for n := range 60 {
		crash := n%2 == 0
		d, _, blocks := grown(t, room, story()[:3]...)
		sure := len(blocks)
		stop := make(chan struct{})
		var all sync.WaitGroup
		for i := range 3 {
			all.Go(func() { meddle(d, rand.New(rand.NewSource(int64(n*3+i))), crash, stop) })
		}
		for range 20 {
			j, e := Open(d)
			if e != api.OK {
				continue
			}
			for range 3 {
				for _, l := range [][]api.Entry{entries(revision(1, num(n))), entries(revision(2, num(n)), redaction(j.Size()-1, 0))} {
					if e := j.Append(api.Block{Index: j.Size(), Time: 1 << 20, Prev: j.Last(), Entries: l}); e == api.OK {
						sure = j.Size()
					}
					j.Block(j.Size() - 1)
				}
			}
		}
		close(stop)
		all.Wait()
		if crash {
			continue
		}
		d.Crash(0)
		if j := opened(t, d); j.Size() < sure {
			t.Fatalf("only %d of %d blocks are left", j.Size(), sure)
		}
	}
}

// W8: a Journal that is copied as a value goes on as the one it was.
func TestCopiedAsAValue(t *testing.T) {
	d, j, blocks := grown(t, room, story()[:4]...)
	moved := *j
	b := behind(blocks, redaction(2, 1), revision(1, num(1)))
	if e := moved.Append(b); e != api.OK {
		t.Fatal(e)
	}
	tells(t, "moved", &moved, chapterWith(blocks, b))
	tells(t, "moved, opened again", opened(t, d), chapterWith(blocks, b))
}

// P12.3: Digest of more blocks than one tree takes.
func TestRootOfMany(t *testing.T) {
	var f forest
	if f.root() != chapterRoot(nil) {
		t.Error("the root of none is another")
	}
	var leaves []api.Hash
	check := func() {
		t.Helper()
		if got, want := f.root(), chapterRoot(leaves); got != want {
			t.Errorf("the root of %d leaves is %x, want %x", len(leaves), got, want)
		}
	}
	for i := range 1<<20 + 5 {
		h := api.Hash{byte(i), byte(i >> 8), byte(i >> 16), 1}
		f.add(h)
		leaves = append(leaves, h)
		if i < 70 || i == 1<<20-2 || i >= 1<<20-1 && i <= 1<<20+2 {
			check()
		}
	}
	check()
	if len(f.trees) != 2 || f.trees[0].Size() != 1<<20 {
		t.Errorf("there are %d trees", len(f.trees))
	}
}

// P12.3: the root is that of chapter 10, at each size.
func TestDigestAtEachSize(t *testing.T) {
	_, j, blocks := grown(t, room)
	tree := merkle.New()
	for range 70 {
		b := behind(blocks, drop(1))
		if e := j.Append(b); e != api.OK {
			t.Fatal(e)
		}
		blocks = append(blocks, b)
		h, _ := block.Hash(b)
		tree.Add(h)
		root, _ := tree.Root(tree.Size())
		if d := j.Digest(); d != (api.Digest{Size: len(blocks), Root: root}) || j.Last() != h {
			t.Fatalf("Digest = %v, want %x", d, root)
		}
	}
}
