package block

import (
	"bytes"
	"crypto/sha256"
	"encoding/binary"
	"fmt"
	"slices"
	"testing"

	"scrivener/api"
	"scrivener/codec"
)

// The chapter, written out a second time over the library's SHA-256 and its way with numbers: what the
// tests hold the answers against. Of the layers below it is chapter 7 alone that is asked.

func cat(parts ...[]byte) []byte { return bytes.Join(parts, nil) }

func rep(x byte, n int) []byte { return bytes.Repeat([]byte{x}, n) }

func uv(u uint64) []byte { return binary.AppendUvarint(nil, u) }

func uvs(numbers ...int) []byte {
	var out []byte
	for _, n := range numbers {
		out = append(out, uv(uint64(n))...)
	}
	return out
}

func chapterSum(parts ...[]byte) api.Hash { return sha256.Sum256(cat(parts...)) }

func chapterLeaf(b []byte) api.Hash { return chapterSum([]byte{0}, b) }

func chapterNode(l, r api.Hash) api.Hash { return chapterSum([]byte{1}, l[:], r[:]) }

func chapterRoot(l []api.Hash) api.Hash {
	if len(l) == 1 {
		return l[0]
	}
	k := 1
	for k+k < len(l) {
		k += k
	}
	return chapterNode(chapterRoot(l[:k]), chapterRoot(l[k:]))
}

func within(n, least, most int) bool { return n >= least && n <= most }

// alike tells whether two are alike in all, be they values or not; a nil list is like an empty one.
func alike(a, b api.Value) bool {
	return a.Kind == b.Kind && a.Int == b.Int && a.Scale == b.Scale && a.Text == b.Text && slices.Equal(a.Names, b.Names) && slices.EqualFunc(a.Kids, b.Kids, alike)
}

func sameEntry(a, b api.Entry) bool {
	return a.Kind == b.Kind && a.Text == b.Text && a.Table == b.Table && a.Doc == b.Doc && a.Version == b.Version && alike(a.Data, b.Data) && a.DataHash == b.DataHash && a.Gone == b.Gone && a.At == b.At
}

func sameBlock(a, b api.Block) bool {
	return a.Index == b.Index && a.Time == b.Time && a.Txn == b.Txn && a.Prev == b.Prev && slices.EqualFunc(a.Entries, b.Entries, sameEntry)
}

// chapterIsEntry takes away what is named, and asks whether nothing is left.
func chapterIsEntry(e api.Entry) bool {
	table, doc, name := within(e.Table, 1, 64), within(e.Doc, 1, 65536), within(len(e.Text), 1, 40)
	left, named := e, false
	left.Kind = 0
	switch e.Kind {
	case 1:
		left.Text, named = "", within(len(e.Text), 1, 4096)
	case 2:
		left.Table, left.Doc, left.Version, left.DataHash, left.Gone = 0, 0, 0, api.Hash{}, false
		named = table && doc && within(e.Version, 0, 2147483648)
		if !e.Gone {
			left.Data = api.Value{}
		}
	case 3:
		left.Table, left.Doc, left.Version = 0, 0, 0
		named = table && doc && within(e.Version, 1, 2147483648)
	case 4:
		left.At = api.Address{}
		named = within(e.At.Block, 0, 2147483648) && within(e.At.Entry, 0, 2147483648)
	case 5, 7:
		left.Table, left.Text, named = 0, "", table && name
	case 6:
		left.Table, named = 0, table
	}
	return named && sameEntry(left, api.Entry{})
}

func chapterEntryCheck(e api.Entry) api.Errno {
	if !chapterIsEntry(e) {
		return api.ErrForm
	}
	if e.Kind != 2 || e.Gone {
		return api.OK
	}
	b, f := codec.Encode(e.Data)
	if f == api.OK && chapterLeaf(b) != e.DataHash {
		return api.ErrDigest
	}
	return f
}

func chapterCheck(b api.Block) api.Errno {
	if !within(b.Index, 0, 2147483648) || !within(b.Time, 0, 9007199254740992) || !within(b.Txn, 0, 9007199254740992) || !within(len(b.Entries), 1, 200) {
		return api.ErrArg
	}
	for _, e := range b.Entries {
		if f := chapterEntryCheck(e); f != api.OK {
			return f
		}
	}
	if len(chapterBytes(b, true)) > 262144 {
		return api.ErrLong
	}
	return api.OK
}

// chapterEntryBytes are an entry's bytes, be it one or not.
func chapterEntryBytes(e api.Entry) []byte {
	b := cat([]byte{byte(e.Kind)}, uvs(e.Table, e.Doc, e.Version, len(e.Text)), []byte(e.Text), uvs(e.At.Block, e.At.Entry))
	if e.Kind == 2 {
		b = append(b, e.DataHash[:]...)
	}
	return b
}

// chapterBytes is what Encode writes, also of what is no block; Data that chapter 7 refuses are of no bytes.
func chapterBytes(b api.Block, data bool) []byte {
	out := cat(uvs(b.Index, b.Time, b.Txn), b.Prev[:], uvs(len(b.Entries)))
	for _, e := range b.Entries {
		out = append(out, chapterEntryBytes(e)...)
		switch {
		case e.Kind != 2:
		case e.Gone || !data:
			out = append(out, 0)
		default:
			d, _ := codec.Encode(e.Data)
			out = append(append(append(out, 1), uvs(len(d))...), d...)
		}
	}
	return out
}

func chapterHead(b api.Block) api.Hash {
	return chapterSum(uvs(max(b.Index, 0), max(b.Time, 0), max(b.Txn, 0)), b.Prev[:])
}

func chapterHash(b api.Block) api.Hash {
	var leaves []api.Hash
	for _, e := range b.Entries {
		leaves = append(leaves, chapterLeaf(chapterEntryBytes(e)))
	}
	root := chapterRoot(leaves)
	return chapterNode(chapterHead(b), chapterSum([]byte{2}, root[:], uvs(len(leaves))))
}

// chapterReader goes through bytes, and panics with the first error.
type chapterReader struct{ left []byte }

func (r *chapterReader) bytes(n int) []byte {
	if len(r.left) < n {
		panic(api.ErrShort)
	}
	got := r.left[:n]
	r.left = r.left[n:]
	return got
}

func (r *chapterReader) uvarint() int {
	u, n := binary.Uvarint(r.left)
	if n == 0 && len(r.left) < 10 {
		panic(api.ErrShort)
	}
	if n <= 0 || !bytes.Equal(uv(u), r.left[:n]) || u > 9007199254740992 {
		panic(api.ErrForm)
	}
	r.bytes(n)
	return int(u)
}

func (r *chapterReader) entry() (e api.Entry) {
	e.Kind = int(r.bytes(1)[0])
	e.Table, e.Doc, e.Version = r.uvarint(), r.uvarint(), r.uvarint()
	e.Text = string(r.bytes(r.uvarint()))
	e.At.Block, e.At.Entry = r.uvarint(), r.uvarint()
	if e.Kind != 2 {
		return e
	}
	e.DataHash = api.Hash(r.bytes(32))
	switch r.bytes(1)[0] {
	case 0:
		e.Gone = true
	case 1:
		v, f := codec.Decode(r.bytes(r.uvarint()))
		if f != api.OK {
			panic(api.ErrForm)
		}
		e.Data = v
	default:
		panic(api.ErrForm)
	}
	return e
}

func chapterDecode(p []byte) (b api.Block, e api.Errno) {
	defer func() {
		if met := recover(); met != nil {
			b, e = api.Block{}, met.(api.Errno)
		}
	}()
	r := &chapterReader{left: p}
	b.Index, b.Time, b.Txn = r.uvarint(), r.uvarint(), r.uvarint()
	b.Prev = api.Hash(r.bytes(32))
	for range r.uvarint() {
		b.Entries = append(b.Entries, r.entry())
	}
	if len(r.left) > 0 {
		panic(api.ErrForm)
	}
	if f := chapterCheck(b); f != api.OK {
		panic(f)
	}
	return b, api.OK
}

func chapterRedact(b api.Block, entry int) (api.Block, api.Errno) {
	if e := chapterCheck(b); e != api.OK {
		return api.Block{}, e
	}
	if !within(entry, 0, len(b.Entries)-1) || b.Entries[entry].Kind != 2 {
		return api.Block{}, api.ErrNone
	}
	if b.Entries[entry].Gone {
		return api.Block{}, api.ErrGone
	}
	b.Entries = slices.Clone(b.Entries)
	b.Entries[entry].Gone, b.Entries[entry].Data = true, api.Value{}
	return b, api.OK
}

// shortBytes is bytes for a message, cut where they are many.
func shortBytes(b []byte) string {
	if len(b) <= 100 {
		return fmt.Sprintf("% x", b)
	}
	return fmt.Sprintf("% x .. (%d bytes)", b[:100], len(b))
}

// short is a block for a message. Its values aren't told whole: some are without an end.
func short(b api.Block) string {
	s := fmt.Sprintf("{%d %d %d, %d entries:", b.Index, b.Time, b.Txn, len(b.Entries))
	for _, e := range b.Entries[:min(len(b.Entries), 4)] {
		s += " " + shortEntry(e)
	}
	return s + "}"
}

func shortEntry(e api.Entry) string {
	return fmt.Sprintf("{kind %d, %d bytes of text, %d %d %d, %v, gone %v, data of kind %d}", e.Kind, len(e.Text), e.Table, e.Doc, e.Version, e.At, e.Gone, e.Data.Kind)
}

func entryHashes(t *testing.T, e api.Entry, want api.Hash, f api.Errno) {
	t.Helper()
	if h, g := EntryHash(e); h != want || g != f {
		t.Errorf("EntryHash(%s) = %x, %v, want %x, %v", shortEntry(e), h, g, want, f)
	}
}

func decodes(t *testing.T, p []byte, want api.Block, e api.Errno) {
	t.Helper()
	if b, f := Decode(p); !sameBlock(b, want) || f != e {
		t.Errorf("Decode(%s) = %s, %v, want %s, %v", shortBytes(p), short(b), f, short(want), e)
	}
}

// undecoded fails unless Decode answers this error and nothing beside it.
func undecoded(t *testing.T, p []byte, e api.Errno) {
	t.Helper()
	decodes(t, p, api.Block{}, e)
}

func encodes(t *testing.T, b api.Block, data bool, want []byte, e api.Errno) {
	t.Helper()
	if p, f := Encode(b, data); !bytes.Equal(p, want) || f != e {
		t.Errorf("Encode(%s, %v) = %s, %v, want %s, %v", short(b), data, shortBytes(p), f, shortBytes(want), e)
	}
}

func redacts(t *testing.T, b api.Block, entry int, want api.Block, e api.Errno) {
	t.Helper()
	if got, f := Redact(b, entry); !sameBlock(got, want) || f != e {
		t.Errorf("Redact(%s, %d) = %s, %v, want %s, %v", short(b), entry, short(got), f, short(want), e)
	}
}

// checks fails unless all calls that ask Check answer its error, and nothing beside it if it is one.
func checks(t *testing.T, b api.Block, e api.Errno) {
	t.Helper()
	if f := Check(b); f != e {
		t.Errorf("Check(%s) = %v, want %v", short(b), f, e)
	}
	if h := Head(b); h != chapterHead(b) {
		t.Errorf("Head(%s) = %x", short(b), h)
	}
	var hash api.Hash
	var with, without []byte
	if e == api.OK {
		hash, with, without = chapterHash(b), chapterBytes(b, true), chapterBytes(b, false)
	}
	if h, f := Hash(b); h != hash || f != e {
		t.Errorf("Hash(%s) = %x, %v, want %x, %v", short(b), h, f, hash, e)
	}
	encodes(t, b, true, with, e)
	encodes(t, b, false, without, e)
	for _, entry := range []int{-1, 0, len(b.Entries) / 2, len(b.Entries) - 1, len(b.Entries)} {
		want, f := chapterRedact(b, entry)
		if e != api.OK {
			want, f = api.Block{}, e
		}
		redacts(t, b, entry, want, f)
	}
}

// blockAsTheChapter fails unless every call answers of b what the chapter says.
func blockAsTheChapter(t *testing.T, b api.Block) {
	t.Helper()
	e := chapterCheck(b)
	checks(t, b, e)
	if e == api.OK {
		decodes(t, chapterBytes(b, true), b, api.OK)
	}
	for _, entry := range b.Entries {
		entryAsTheChapter(t, entry)
	}
}

func entryAsTheChapter(t *testing.T, e api.Entry) {
	t.Helper()
	if f := chapterEntryCheck(e); f != api.OK {
		entryHashes(t, e, api.Hash{}, f)
		return
	}
	entryHashes(t, e, chapterLeaf(chapterEntryBytes(e)), api.OK)
}

// bytesAsTheChapter fails unless Decode answers of p what the chapter says, and what it takes is what Encode writes.
func bytesAsTheChapter(t *testing.T, p []byte) {
	t.Helper()
	b, e := chapterDecode(p)
	decodes(t, p, b, e)
	if e == api.OK {
		encodes(t, b, true, p, api.OK)
	}
}
