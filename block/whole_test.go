package block

import (
	"bytes"
	"fmt"
	"math"
	"math/rand"
	"runtime"
	"slices"
	"strings"
	"sync"
	"testing"

	"scrivener/api"
	"scrivener/codec"
)

// What holds everywhere: W1 to W7, of blocks and bytes of all kinds.

// maker makes blocks out of bytes: the same of the same bytes.
type maker struct {
	from []byte
	ill  bool // now and then what is none
}

func (m *maker) next() int {
	if len(m.from) == 0 {
		return 0
	}
	b := m.from[0]
	m.from = m.from[1:]
	return int(b)
}

// pick is one of these.
func pick[T any](m *maker, of ...T) T { return of[m.next()%len(of)] }

// rarely is true now and then, and never where nothing ill is asked for.
func (m *maker) rarely() bool { return m.ill && m.next()%16 == 0 }

// number is one from least to most, or beyond.
func (m *maker) number(least, most int) int {
	if m.rarely() {
		return pick(m, least-1, most+1, -1, 0, 1, math.MaxInt, math.MinInt, 1<<53+1, 1<<32+1)
	}
	return pick(m, least, most, least+1, most-1, least+m.next()%(most-least+1))
}

func (m *maker) text(most int) string {
	if m.rarely() {
		return strings.Repeat("x", pick(m, 0, most+1, most))
	}
	return strings.Repeat(pick(m, "a", "b", "\x00", "\xff", "\x80", "\x02"), pick(m, 1, 2, 3, 20, most))
}

func (m *maker) value(deep int) api.Value {
	switch kind := m.next() % 6; {
	case kind == 1:
		return num(m.next() - 128)
	case kind == 2:
		return text(strings.Repeat("v", m.next()))
	case kind == 3 && deep < 5:
		v := list()
		for range m.next() % 4 {
			v.Kids = append(v.Kids, m.value(deep+1))
		}
		return v
	case kind == 4 && deep < 5:
		v := record("a b cc", m.value(deep+1), m.value(deep+1), m.value(deep+1))
		if m.rarely() {
			v.Names[1] = "a"
		}
		return v
	case kind == 5 && m.ill:
		return pick(m, api.Value{}, text(letters(1<<14+1)), api.Value{Kind: api.Bool, Int: 2}, null())
	}
	return null()
}

func (m *maker) entry() api.Entry {
	var e api.Entry
	switch m.next() % 8 {
	case 0:
		e = statement(m.text(api.MaxText))
	case 1, 2:
		e = revision(m.number(1, 64), m.number(1, 65536), m.number(0, 1<<31), m.value(1))
	case 3:
		e = gone(m.number(1, 64), m.number(1, 65536), m.number(0, 1<<31), api.Hash{byte(m.next())})
	case 4:
		e = deletion(m.number(1, 64), m.number(1, 65536), m.number(1, 1<<31))
	case 5:
		e = redaction(m.number(0, 1<<31), m.number(0, 1<<31))
	case 6:
		e = pick(m, table(m.number(1, 64), m.text(40)), indexed(m.number(1, 64), m.text(40)))
	case 7:
		e = drop(m.number(1, 64))
	}
	if m.rarely() {
		pick(m,
			func() { e.Kind = m.next() % 9 }, func() { e.Table = m.next() }, func() { e.Doc = m.next() }, func() { e.Version = m.next() }, func() { e.At.Entry++ }, func() { e.At.Block-- },
			func() { e.Text += "x" }, func() { e.Gone = !e.Gone }, func() { e.DataHash[m.next()%32]++ }, func() { e.DataHash = hashOf(m.value(1)) }, func() { e.Data = m.value(1) }, func() { e.Data.Scale = 1 })()
	}
	return e
}

func (m *maker) block() api.Block {
	b := api.Block{Index: m.number(0, 1<<31), Time: m.number(0, 1<<53), Txn: m.number(0, 1<<53), Prev: api.Hash{byte(m.next())}}
	n := 1 + m.next()%5
	if m.rarely() {
		n = m.next() % 3 * 100
	}
	for range n {
		b.Entries = append(b.Entries, m.entry())
	}
	return b
}

func bytesOf(r *rand.Rand, n int) []byte {
	b := make([]byte, n)
	r.Read(b)
	return b
}

// spoilt is bytes of which some are others, missing or too many.
func spoilt(r *rand.Rand, b []byte) []byte {
	b = bytes.Clone(b)
	for range 1 + r.Intn(2) {
		at := r.Intn(len(b) + 1)
		switch r.Intn(4) {
		case 0:
			b = b[:at]
		case 1:
			b = slices.Insert(b, at, byte(r.Intn(256)>>r.Intn(8)))
		case 2:
			b = slices.Delete(b, at, min(at+1, len(b)))
		case 3:
			if at < len(b) {
				b[at] = byte(r.Intn(256) >> r.Intn(8))
			}
		}
	}
	return b
}

func TestManyAsTheChapter(t *testing.T) {
	r := rand.New(rand.NewSource(11))
	met := map[api.Errno]int{}
	for range 12000 {
		m := &maker{from: bytesOf(r, 120), ill: r.Intn(2) == 0}
		b := m.block()
		blockAsTheChapter(t, b)
		redacted, _ := chapterRedact(b, r.Intn(6))
		blockAsTheChapter(t, redacted)
		met[Check(b)]++
		if p := chapterBytes(b, r.Intn(2) == 0); len(p) < 20000 {
			bytesAsTheChapter(t, p)
			bytesAsTheChapter(t, spoilt(r, p))
			bytesAsTheChapter(t, spoilt(r, p))
		}
		bytesAsTheChapter(t, bytesOf(r, r.Intn(60)))
	}
	for _, e := range []api.Errno{api.OK, api.ErrArg, api.ErrForm, api.ErrDigest, api.ErrLong} {
		if met[e] < 20 {
			t.Errorf("only %d with %v", met[e], e)
		}
	}
}

// Each byte of a block's bytes, turned in each way.
func TestDecodeEachByteTurned(t *testing.T) {
	p := chapterBytes(of(kinds()...), true)
	for i := range p {
		for x := range 256 {
			q := bytes.Clone(p)
			q[i] = byte(x)
			bytesAsTheChapter(t, q)
		}
	}
}

// Every few bytes where an entry stands.
func TestDecodeEveryFewBytes(t *testing.T) {
	head := cat(rep(0, 35), []byte{1})
	some := []byte{0, 1, 2, 7, 8, 0x80, 0xff}
	var b []byte
	var each func(left int)
	each = func(left int) {
		bytesAsTheChapter(t, cat(head, b))
		bytesAsTheChapter(t, cat(revised(hashOf(null()), b)))
		if left == 0 {
			return
		}
		for _, x := range some {
			b = append(b, x)
			each(left - 1)
			b = b[:len(b)-1]
		}
	}
	each(5)
	for a := range 256 {
		bytesAsTheChapter(t, []byte{byte(a)})
		bytesAsTheChapter(t, cat(head, []byte{byte(a)}))
		for c := range 256 {
			bytesAsTheChapter(t, cat(head, []byte{byte(a), byte(c), 0, 0, 0, 0, 0}))
			bytesAsTheChapter(t, revised(hashOf(null()), []byte{byte(a), byte(c), 1}))
		}
	}
}

// W3: beside an error stands nothing.
func TestNothingBesideAnError(t *testing.T) {
	for _, b := range samples() {
		if Check(b) == api.OK {
			continue
		}
		h, e := Hash(b)
		p, f := Encode(b, true)
		q, g := Encode(b, false)
		x, k := Redact(b, 0)
		if e == api.OK || f == api.OK || g == api.OK || k == api.OK || h != (api.Hash{}) || p != nil || q != nil || !sameBlock(x, api.Block{}) || x.Entries != nil {
			t.Errorf("%s: %x, %d and %d bytes, %s beside an error", short(b), h, len(p), len(q), short(x))
		}
	}
	for _, p := range rows() {
		if b, e := Decode(p); e != api.OK && (!sameBlock(b, api.Block{}) || b.Entries != nil) {
			t.Errorf("Decode(%s) = %s beside %v", shortBytes(p), short(b), e)
		}
	}
	for _, f := range faults() {
		if h, e := EntryHash(f.e); e == api.OK || h != (api.Hash{}) {
			t.Errorf("EntryHash of %s = %x, %v", f.name, h, e)
		}
	}
}

// samples are blocks that the calls are given here, those among them that are none.
func samples() []api.Block {
	shared := document()
	wrong := revision(1, 1, 0, shared)
	wrong.DataHash[0] ^= 1
	strange := drop(1)
	strange.Data = shared
	return []api.Block{
		of(kinds()...), theBlock(), of(revision(1, 1, 0, shared), revision(1, 2, 0, shared), revision(1, 3, 0, list(shared, shared))), of(revision(1, 1, 0, shared), gone(1, 1, 1, hashOf(shared)), revision(1, 1, 2, shared)),
		of(wrong), of(revision(1, 1, 0, shared), wrong), of(strange), {}, of(), of(revision(1, 1, 0, shared), statement("")), of(revision(1, 1, 0, list(shared, api.Value{}))), filled(api.MaxBlock, true), filled(api.MaxBlock+1, true),
		of(slices.Repeat([]api.Entry{revision(1, 1, 0, shared)}, 201)...),
	}
}

// rows are bytes that Decode takes or refuses.
func rows() [][]byte {
	out := [][]byte{nil, {}, {1, 2, 3}, rep(0xff, 100)}
	for _, b := range samples() {
		p := chapterBytes(b, true)
		out = append(out, p, chapterBytes(b, false), cat(p, []byte{1}), p[:len(p)-1], p[:len(p)/2])
	}
	return out
}

// W6, W7: what is handed in and what is answered

// sparedValue is a value in memory of its own, each list with spare room behind its end.
func sparedValue(v api.Value) api.Value {
	names, kids := make([]string, len(v.Names)+2), make([]api.Value, len(v.Kids)+2)
	copy(names, v.Names)
	for i, kid := range v.Kids {
		kids[i] = sparedValue(kid)
	}
	names[len(v.Names)], kids[len(v.Kids)] = "spare", text("spare")
	v.Names, v.Kids = names[:len(v.Names)], kids[:len(v.Kids)]
	return v
}

// spared is a block in memory of its own, with spare room behind each end.
func spared(b api.Block) api.Block {
	entries := make([]api.Entry, len(b.Entries)+2)
	for i, e := range b.Entries {
		e.Data = sparedValue(e.Data)
		entries[i] = e
	}
	entries[len(b.Entries)] = statement("spare")
	entries[len(b.Entries)+1] = revision(1, 1, 0, sparedValue(document()))
	b.Entries = entries[:len(b.Entries)]
	return b
}

// wholeValue is all of a value as a text, spare room too.
func wholeValue(v api.Value) string {
	var out strings.Builder
	fmt.Fprintf(&out, "%d %d %d %q %q %d[", v.Kind, v.Int, v.Scale, v.Text, v.Names[:cap(v.Names)], len(v.Kids))
	for _, kid := range v.Kids[:cap(v.Kids)] {
		out.WriteString(wholeValue(kid))
	}
	return out.String() + "]"
}

// whole is all of a block as a text, spare room too.
func whole(b api.Block) string {
	var out strings.Builder
	fmt.Fprintf(&out, "%d %d %d %x %d[", b.Index, b.Time, b.Txn, b.Prev, len(b.Entries))
	for _, e := range b.Entries[:cap(b.Entries)] {
		fmt.Fprintf(&out, "%d %q %d %d %d %x %v %v %s;", e.Kind, e.Text, e.Table, e.Doc, e.Version, e.DataHash, e.Gone, e.At, wholeValue(e.Data))
	}
	return out.String() + "]"
}

// turnValue makes all memory of a value another one, spare room too.
func turnValue(v api.Value) {
	names, kids := v.Names[:cap(v.Names)], v.Kids[:cap(v.Kids)]
	for i := range names {
		names[i] += "turned"
	}
	for i, kid := range kids {
		turnValue(kid)
		kids[i] = api.Value{Kind: -kid.Kind, Int: ^kid.Int, Text: kid.Text + "turned"}
	}
}

// turn makes all memory of a block another one, spare room too.
func turn(b api.Block) {
	entries := b.Entries[:cap(b.Entries)]
	for i := range entries {
		turnValue(entries[i].Data)
		entries[i] = api.Entry{Kind: ^entries[i].Kind, Text: entries[i].Text + "turned", Gone: !entries[i].Gone, Table: ^entries[i].Table}
	}
}

// turnBytes makes every byte of a list and of its spare room another one.
func turnBytes(b []byte) {
	b = b[:cap(b)]
	for i := range b {
		b[i] ^= 0xff
	}
}

// all is what every call answers of a block, as a text, and the lists among it.
func all(b api.Block) (string, [][]byte, []api.Block) {
	var out strings.Builder
	h, e := Hash(b)
	p, f := Encode(b, true)
	q, g := Encode(b, false)
	fmt.Fprintf(&out, "%v %x %x %v %x %v %x %v ", Check(b), Head(b), h, e, p, f, q, g)
	blocks := []api.Block{}
	for i := range min(len(b.Entries), 12) + 1 {
		x, k := Redact(b, i)
		blocks = append(blocks, x)
		fmt.Fprintf(&out, "%v %s ", k, whole(x))
	}
	for _, entry := range b.Entries {
		h, k := EntryHash(entry)
		fmt.Fprintf(&out, "%x %v ", h, k)
	}
	return out.String(), [][]byte{p, q}, blocks
}

func TestHandedInIsNotChanged(t *testing.T) {
	for _, b := range samples() {
		given := spared(b)
		before := whole(given)
		said, lists, blocks := all(given)
		if whole(given) != before {
			t.Errorf("the calls of %s change it", short(b))
		}
		// Nor by what is done with the answers.
		for _, l := range lists {
			turnBytes(l)
		}
		for _, x := range blocks {
			turn(x)
		}
		if whole(given) != before {
			t.Errorf("an answer of %s shares memory with it", short(b))
		}
		if again, _, _ := all(given); again != said {
			t.Errorf("other answers of %s at the second time", short(b))
		}
	}
}

func TestHandedInIsNotKept(t *testing.T) {
	for _, b := range samples() {
		given := spared(b)
		said, lists, blocks := all(given)
		var before []string
		for _, x := range blocks {
			before = append(before, whole(x))
		}
		copies := [][]byte{bytes.Clone(lists[0]), bytes.Clone(lists[1])}
		turn(given)
		for i, x := range blocks {
			if whole(x) != before[i] {
				t.Errorf("Redact(%s, %d) shares memory with it", short(b), i)
			}
		}
		if !slices.EqualFunc(lists, copies, bytes.Equal) {
			t.Errorf("Encode(%s) shares memory with it", short(b))
		}
		if again, _, _ := all(spared(b)); again != said {
			t.Errorf("other answers of %s at the second time", short(b))
		}
	}
}

func TestBytesHandedInAreNotChanged(t *testing.T) {
	for _, p := range rows() {
		room := cat(p, rep(0xa5, 64))
		b, _ := Decode(room[:len(p)])
		turn(b)
		if !bytes.Equal(room, cat(p, rep(0xa5, 64))) {
			t.Errorf("Decode(%s) changed it", shortBytes(p))
		}
	}
}

func TestBytesHandedInAreNotKept(t *testing.T) {
	for _, p := range rows() {
		given := cat(p, rep(0xa5, 64))[:len(p)]
		b, e := Decode(given)
		want := whole(b)
		turnBytes(given)
		if whole(b) != want {
			t.Errorf("Decode(%s): the answer shares memory with it", shortBytes(p))
		}
		decodes(t, bytes.Clone(p), b, e)
	}
}

// The spare room behind bytes is not read.
func TestSpareRoomIsNotRead(t *testing.T) {
	p := chapterBytes(of(kinds()...), true)
	for n := range p {
		undecoded(t, p[:n:len(p)], api.ErrShort)
	}
}

// places counts where each element of each list stands, spare room too.
func places(b api.Block, count map[any]int) {
	entries := b.Entries[:cap(b.Entries)]
	for i := range entries {
		count[&entries[i]]++
		placesOf(entries[i].Data, count)
	}
}

func placesOf(v api.Value, count map[any]int) {
	names, kids := v.Names[:cap(v.Names)], v.Kids[:cap(v.Kids)]
	for i := range names {
		count[&names[i]]++
	}
	for i := range kids {
		count[&kids[i]]++
		placesOf(kids[i], count)
	}
}

// apart fails unless no two lists of these share a place.
func apart(t *testing.T, name string, blocks ...api.Block) {
	t.Helper()
	count := map[any]int{}
	for _, b := range blocks {
		places(b, count)
	}
	for _, n := range count {
		if n != 1 {
			t.Fatalf("%s: one place is in %d lists", name, n)
		}
	}
}

func TestAnswersAreNewMemory(t *testing.T) {
	for _, b := range samples() {
		// The same lists stand at several places of what is handed in: not so in the answers.
		for i := range b.Entries {
			x, e := Redact(b, i)
			y, _ := Redact(b, i)
			if e == api.OK {
				apart(t, "Redact", x, y)
				apart(t, "Redact and what is handed in", x, spared(b))
			}
		}
		for _, data := range []bool{true, false} {
			p, e := Encode(b, data)
			q, _ := Encode(b, data)
			want := bytes.Clone(p)
			turnBytes(q)
			if !bytes.Equal(p, want) {
				t.Errorf("Encode(%s): two answers share memory", short(b))
			}
			turnBytes(p)
			encodes(t, b, data, want, e)
		}
	}
	for _, p := range rows() {
		x, _ := Decode(p)
		y, _ := Decode(p)
		apart(t, "Decode", x, y)
	}
}

func TestAnswersStay(t *testing.T) {
	var blocks []api.Block
	var said []string
	for _, p := range rows() {
		b, _ := Decode(p)
		blocks, said = append(blocks, b), append(said, whole(b))
	}
	var lists, copies [][]byte
	for _, b := range samples() {
		_, l, x := all(b)
		for i := range x {
			blocks, said = append(blocks, x[i]), append(said, whole(x[i]))
		}
		lists, copies = append(lists, l...), append(copies, bytes.Clone(l[0]), bytes.Clone(l[1]))
	}
	for _, b := range ordinary() {
		all(b)
	}
	for i, b := range blocks {
		if whole(b) != said[i] {
			t.Fatalf("the answer %s became another one", short(b))
		}
	}
	if !slices.EqualFunc(lists, copies, bytes.Equal) {
		t.Error("bytes that were answered became others")
	}
}

// W5: a field that is not named has nothing, in answers too.
func TestAnswersHaveNothingElse(t *testing.T) {
	for _, b := range ordinary() {
		got, e := Decode(chapterBytes(b, true))
		if e != api.OK || chapterCheck(got) != api.OK {
			t.Errorf("Decode(%s): %v, %v", short(b), e, chapterCheck(got))
		}
		for i := range b.Entries {
			if x, e := Redact(b, i); e == api.OK && chapterCheck(x) != api.OK {
				t.Errorf("Redact(%s, %d): %v", short(b), i, chapterCheck(x))
			}
		}
	}
}

// W2: calls side by side answer as they do alone.
func TestSideBySide(t *testing.T) {
	blocks := append(samples(), ordinary()[:8]...)
	var group sync.WaitGroup
	for range 8 {
		group.Go(func() {
			for _, b := range blocks {
				blockAsTheChapter(t, b)
				bytesAsTheChapter(t, chapterBytes(b, true))
			}
		})
	}
	group.Wait()
}

// W1: bytes of which a block in memory would be many times greater are gone through without it.
func TestDecodeOfGreatBytesTakesLittleMemory(t *testing.T) {
	row := cat([]byte{8}, uv(200), rep(1, 200))
	nest := cat([]byte{8}, uv(200), bytes.Repeat(row, 200))
	nest = cat([]byte{8, 1}, nest)
	if _, e := codec.Decode(nest); e != api.OK {
		t.Fatal(e)
	}
	h := chapterLeaf(nest)
	one := cat([]byte{2, 1, 1, 0, 0, 0, 0}, h[:], []byte{1}, uv(uint64(len(nest))), nest)
	head := cat([]byte{4, 0xac, 2, 9}, rep(7, 32))
	long := cat(head, uv(200), bytes.Repeat(one, 200))
	many := cat(head, uv(1<<21), bytes.Repeat([]byte{6, 1, 0, 0, 0, 0, 0}, 1<<21))
	runtime.GC()
	var before, behind runtime.MemStats
	runtime.ReadMemStats(&before)
	undecoded(t, long, api.ErrLong)
	undecoded(t, many, api.ErrArg)
	undecoded(t, many[:len(many)-1], api.ErrShort)
	runtime.ReadMemStats(&behind)
	if grown := int(behind.HeapSys) - int(before.HeapSys); grown > 1<<28 {
		t.Errorf("%d and %d bytes take %d of memory", len(long), len(many), grown)
	}
}

// W1: whatever bytes come, every call ends and answers what the chapter says.
func FuzzAnyBytes(f *testing.F) {
	for _, p := range rows() {
		if len(p) < 1000 {
			f.Add(p)
		}
	}
	f.Fuzz(func(t *testing.T, p []byte) {
		bytesAsTheChapter(t, p)
		// Any bytes behind these reach what a fuzzer hardly finds.
		bytesAsTheChapter(t, cat(rep(0, 35), []byte{1}, p))
		bytesAsTheChapter(t, cat(rep(0, 35), []byte{2, 1, 0, 0, 0, 1, 'x', 0, 0}, p))
		bytesAsTheChapter(t, revised(api.Hash{}, p))
		bytesAsTheChapter(t, revised(chapterLeaf(p), []byte{1}, uv(uint64(len(p))), p))
		b := (&maker{from: p, ill: len(p)%2 == 0}).block()
		blockAsTheChapter(t, b)
		bytesAsTheChapter(t, chapterBytes(b, true))
	})
}
