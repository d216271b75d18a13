package codec

import (
	"bytes"
	"crypto/sha256"
	"encoding/binary"
	"fmt"
	"math"
	"math/rand"
	"runtime"
	"slices"
	"strings"
	"sync"
	"testing"

	"scrivener/api"
	"scrivener/digest"
	"scrivener/value"
)

func null() api.Value               { return api.Value{Kind: api.Null} }
func truth(n int) api.Value         { return api.Value{Kind: api.Bool, Int: n} }
func num(n int) api.Value           { return api.Value{Kind: api.Int, Int: n} }
func dec(n, s int) api.Value        { return api.Value{Kind: api.Decimal, Int: n, Scale: s} }
func clock(n int) api.Value         { return api.Value{Kind: api.Time, Int: n} }
func text(s string) api.Value       { return api.Value{Kind: api.Text, Text: s} }
func blob(s string) api.Value       { return api.Value{Kind: api.Blob, Text: s} }
func list(l ...api.Value) api.Value { return api.Value{Kind: api.List, Kids: l} }

// record is a struct with these names, parted by blanks.
func record(names string, kids ...api.Value) api.Value {
	return api.Value{Kind: api.Struct, Names: strings.Fields(names), Kids: kids}
}

// under is a struct with one field.
func under(name string, v api.Value) api.Value {
	return api.Value{Kind: api.Struct, Names: []string{name}, Kids: []api.Value{v}}
}

// many is n kids, all Null.
func many(n int) []api.Value { return slices.Repeat([]api.Value{null()}, n) }

// wide is a struct of n fields.
func wide(n int) api.Value {
	v := api.Value{Kind: api.Struct, Kids: many(n)}
	for i := range n {
		v.Names = append(v.Names, fmt.Sprintf("n%05d", i))
	}
	return v
}

// letters is a text of n bytes.
func letters(n int) api.Value { return text(strings.Repeat("x", n)) }

// nested is v within n lists or structs, by turns.
func nested(v api.Value, n int) api.Value {
	for i := range n {
		if i%2 == 0 {
			v = list(v)
		} else {
			v = under("in", v)
		}
	}
	return v
}

// sized is a value that takes just n bytes, for great n: four great texts and one that fills up.
func sized(n int) api.Value {
	v := list(letters(1<<14), letters(1<<14), letters(1<<14), letters(1<<13), letters(0))
	v.Kids[4] = letters(n - len(chapterBytes(v)) - 1)
	return v
}

func rep(x byte, n int) []byte { return bytes.Repeat([]byte{x}, n) }

func cat(parts ...[]byte) []byte { return bytes.Join(parts, nil) }

func uv(u uint64) []byte { return binary.AppendUvarint(nil, u) }

// shortBytes is bytes for a message, cut where they are many.
func shortBytes(b []byte) string {
	if len(b) <= 60 {
		return fmt.Sprintf("% x", b)
	}
	return fmt.Sprintf("% x .. (%d bytes)", b[:60], len(b))
}

// short is a value for a message, cut where it is long.
func short(v api.Value) string {
	if value.Check(v) == api.ErrDeep {
		return fmt.Sprintf("a value of kind %d that is too deep", v.Kind)
	}
	s := fmt.Sprintf("%+v", v)
	return s[:min(len(s), 300)]
}

// alike tells whether two are alike in all, be they values or not; a nil list is like an empty one.
func alike(a, b api.Value) bool {
	return a.Kind == b.Kind && a.Int == b.Int && a.Scale == b.Scale && a.Text == b.Text && slices.Equal(a.Names, b.Names) && slices.EqualFunc(a.Kids, b.Kids, alike)
}

// ordinary are values of each kind.
func ordinary() []api.Value {
	out := []api.Value{
		null(), truth(0), truth(1),
		dec(1, 1), dec(-1, 1), dec(25, 1), dec(-15, 1), dec(1, 18), dec(-1, 18), dec(64, 2), dec(math.MaxInt, 18), dec(math.MinInt, 1), dec(math.MinInt, 18),
		clock(0), clock(1), clock(127), clock(128), clock(300), clock(1<<53 - 1), clock(1 << 53),
		text(""), text("a"), text("ab"), text("\x00"), text("\xff\xfe"), text("é"), text(strings.Repeat("z", 127)), text(strings.Repeat("z", 128)), text("\x06\x02ab"),
		blob(""), blob("a"), blob("\x00"), blob("\x00\xff\x80"), blob(strings.Repeat("\xff", 300)),
		list(), list(null()), list(null(), truth(1)), list(num(1), num(1)), list(list(), list(list(null()), text("x")), num(-300)), list(record(""), under("a", null())), list(many(127)...), list(many(128)...),
		record(""), under("a", null()), under("\x00", num(5)), under(strings.Repeat("n", api.MaxName), list()), record("a b", list(null(), truth(1)), dec(-15, 1)), record("a aa b", num(1), text("two"), blob("three")),
		under("a", under("a", under("a", list(clock(7), record("x y", null(), list()))))), wide(127), wide(128),
	}
	for _, n := range wholes() {
		out = append(out, num(n))
	}
	return out
}

// wholes are the numbers around each power of two, of both signs.
func wholes() []int {
	out := []int{0, 1, -1, 2, -2, 10, 300, -150, math.MaxInt, math.MinInt, math.MinInt + 1}
	for i := range 63 {
		p := 1 << i
		out = append(out, p-1, p, p+1, -p-1, -p, 1-p)
	}
	return out
}

// greatest are values at the edges.
func greatest() []api.Value {
	return []api.Value{
		letters(1<<14 - 1), letters(1 << 14), blob(strings.Repeat("\xff", 1<<14)), list(many(api.MaxFields)...), wide(api.MaxFields),
		nested(null(), api.MaxDeep-1), nested(list(), api.MaxDeep-1), nested(record(""), api.MaxDeep-1), nested(letters(1<<14), api.MaxDeep-1),
		sized(api.MaxBytes - 1), sized(api.MaxBytes), {Kind: api.List, Names: []string{}, Kids: []api.Value{}}, {Kind: api.Null, Names: []string{}, Kids: []api.Value{}},
	}
}

// fault is what is no value, and Check's error of it.
type fault struct {
	v api.Value
	e api.Errno
}

// written are faults of which the bytes can be read: it is Check that refuses them.
func written() []fault {
	return []fault{
		{dec(1, 0), api.ErrForm}, {dec(0, 0), api.ErrForm}, {dec(0, 1), api.ErrForm}, {dec(1, 19), api.ErrForm}, {dec(1, 255), api.ErrForm}, {dec(20, 1), api.ErrForm}, {dec(-10, 18), api.ErrForm},
		{clock(1<<53 + 1), api.ErrForm}, {clock(math.MaxInt), api.ErrForm}, {clock(-1), api.ErrForm}, {clock(math.MinInt), api.ErrForm}, {clock(math.MinInt + 5), api.ErrForm},
		{letters(1<<14 + 1), api.ErrLong}, {letters(1 << 16), api.ErrLong}, {blob(strings.Repeat("\xff", 1<<14+1)), api.ErrLong}, {list(many(api.MaxFields + 1)...), api.ErrLong}, {wide(api.MaxFields + 1), api.ErrLong},
		{list(many(1 << 16)...), api.ErrLong}, {wide(1 << 13), api.ErrLong}, {api.Value{Kind: api.Struct, Names: make([]string, 201), Kids: many(201)}, api.ErrLong},
		{under("", null()), api.ErrForm}, {under(strings.Repeat("n", api.MaxName+1), null()), api.ErrForm}, {under(strings.Repeat("n", 1<<16), null()), api.ErrForm}, {record("b a", null(), null()), api.ErrForm}, {record("a a", null(), null()), api.ErrForm}, {record("a b b c", many(4)...), api.ErrForm},
		// What stands at the top is ahead of the kids.
		{record("b a", letters(1<<14+1), null()), api.ErrForm}, {record("b a", null(), letters(1<<14+1)), api.ErrForm}, {list(slices.Repeat([]api.Value{dec(20, 1)}, 201)...), api.ErrLong},
		// Each kid is ahead of the next one.
		{list(dec(20, 1), letters(1<<14+1)), api.ErrForm}, {list(letters(1<<14+1), dec(20, 1)), api.ErrLong}, {list(null(), list(list(dec(1, 0))), letters(1<<14+1)), api.ErrForm}, {record("a b", under("x", letters(1<<14+1)), under("", null())), api.ErrLong},
	}
}

// faults are all kinds of what Check refuses.
func faults() []fault {
	return append(written(), []fault{
		{api.Value{}, api.ErrForm}, {api.Value{Kind: 10}, api.ErrForm}, {api.Value{Kind: -1}, api.ErrForm}, {api.Value{Kind: 256 + api.Null}, api.ErrForm}, {api.Value{Kind: math.MinInt}, api.ErrForm},
		{truth(2), api.ErrForm}, {truth(-1), api.ErrForm}, {truth(257), api.ErrForm}, {dec(1, 257), api.ErrForm}, {dec(1, -1), api.ErrForm},
		{api.Value{Kind: api.Null, Text: "x"}, api.ErrForm}, {api.Value{Kind: api.Int, Scale: 1}, api.ErrForm}, {api.Value{Kind: api.Text, Kids: many(1)}, api.ErrForm}, {api.Value{Kind: api.List, Names: []string{"a"}, Kids: many(1)}, api.ErrForm},
		{record("a b", null()), api.ErrForm}, {record("a", null(), null()), api.ErrForm}, {record("a"), api.ErrForm},
		{nested(null(), api.MaxDeep), api.ErrDeep}, {nested(list(), 40), api.ErrDeep}, {list(null(), nested(dec(20, 1), api.MaxDeep-1)), api.ErrDeep},
	}...)
}

// The chapter, clause by clause: what the tests below hold the answers against.

// chapterBytes are a value's bytes, by the library's way with numbers, however many they are.
func chapterBytes(v api.Value) []byte {
	b := []byte{byte(v.Kind)}
	switch v.Kind {
	case api.Bool:
		b = append(b, byte(v.Int))
	case api.Int:
		b = binary.AppendVarint(b, int64(v.Int))
	case api.Decimal:
		b = binary.AppendVarint(b, int64(v.Int))
		b = append(b, byte(v.Scale))
	case api.Time:
		b = binary.AppendUvarint(b, uint64(v.Int))
	case api.Text, api.Blob:
		b = binary.AppendUvarint(b, uint64(len(v.Text)))
		b = append(b, v.Text...)
	case api.List:
		b = binary.AppendUvarint(b, uint64(len(v.Kids)))
		for _, kid := range v.Kids {
			b = append(b, chapterBytes(kid)...)
		}
	case api.Struct:
		b = binary.AppendUvarint(b, uint64(len(v.Kids)))
		for i, kid := range v.Kids {
			b = binary.AppendUvarint(b, uint64(len(v.Names[i])))
			b = append(b, v.Names[i]...)
			b = append(b, chapterBytes(kid)...)
		}
	}
	return b
}

func chapterEncode(v api.Value) ([]byte, api.Errno) {
	if e := value.Check(v); e != api.OK {
		return nil, e
	}
	b := chapterBytes(v)
	if len(b) > 65536 {
		return nil, api.ErrLong
	}
	return b, api.OK
}

// chapterReader goes through bytes, and panics with the first error.
type chapterReader struct{ left []byte }

func (r *chapterReader) bytes(n int) []byte {
	if len(r.left) < n {
		panic(api.ErrShort)
	}
	got := r.left[:n]
	r.left = r.left[n:]
	return got
}

func (r *chapterReader) uvarint() uint64 {
	u, n := binary.Uvarint(r.left)
	if n == 0 && len(r.left) < 10 {
		panic(api.ErrShort)
	}
	if n <= 0 || !bytes.Equal(uv(u), r.left[:n]) {
		panic(api.ErrForm)
	}
	r.bytes(n)
	return u
}

func (r *chapterReader) length() int {
	u := r.uvarint()
	if u > 65536 {
		panic(api.ErrForm)
	}
	return int(u)
}

func (r *chapterReader) zag() int {
	u := r.uvarint()
	if u%2 == 1 {
		return -int(u/2) - 1
	}
	return int(u / 2)
}

func (r *chapterReader) value(deep int) (v api.Value) {
	if deep == 17 {
		panic(api.ErrDeep)
	}
	v.Kind = int(r.bytes(1)[0])
	switch v.Kind {
	case api.Null:
	case api.Bool:
		v.Int = int(r.bytes(1)[0])
		if v.Int > 1 {
			panic(api.ErrForm)
		}
	case api.Int:
		v.Int = r.zag()
	case api.Decimal:
		v.Int = r.zag()
		v.Scale = int(r.bytes(1)[0])
	case api.Time:
		v.Int = int(min(r.uvarint(), math.MaxInt))
	case api.Text, api.Blob:
		v.Text = string(r.bytes(r.length()))
	case api.List:
		for range r.length() {
			v.Kids = append(v.Kids, r.value(deep+1))
		}
	case api.Struct:
		for range r.length() {
			v.Names = append(v.Names, string(r.bytes(r.length())))
			v.Kids = append(v.Kids, r.value(deep+1))
		}
	default:
		panic(api.ErrForm)
	}
	return v
}

// chapterFirst is what stands at the beginning of b, with all errors but that it is too long.
func chapterFirst(b []byte) (v api.Value, n int, e api.Errno) {
	defer func() {
		if met := recover(); met != nil {
			v, n, e = api.Value{}, 0, met.(api.Errno)
		}
	}()
	r := &chapterReader{left: b}
	v = r.value(1)
	return v, len(b) - len(r.left), value.Check(v)
}

func chapterRead(b []byte) (api.Value, int, api.Errno) {
	v, n, e := chapterFirst(b)
	if e == api.OK && n > 65536 {
		e = api.ErrLong
	}
	if e != api.OK {
		return api.Value{}, 0, e
	}
	return v, n, api.OK
}

func chapterDecode(b []byte) (api.Value, api.Errno) {
	v, n, e := chapterFirst(b)
	switch {
	case e != api.OK:
		return api.Value{}, e
	case n != len(b):
		return api.Value{}, api.ErrForm
	case n > 65536:
		return api.Value{}, api.ErrLong
	}
	return v, api.OK
}

func encodes(t *testing.T, v api.Value, want []byte, e api.Errno) {
	t.Helper()
	if b, f := Encode(v); !bytes.Equal(b, want) || f != e {
		t.Errorf("Encode(%s) = %s, %v, want %s, %v", short(v), shortBytes(b), f, shortBytes(want), e)
	}
}

func hashes(t *testing.T, v api.Value, want api.Hash, e api.Errno) {
	t.Helper()
	if h, f := Hash(v); h != want || f != e {
		t.Errorf("Hash(%s) = %x, %v, want %x, %v", short(v), h, f, want, e)
	}
}

func reads(t *testing.T, b []byte, want api.Value, n int, e api.Errno) {
	t.Helper()
	if v, m, f := Read(b); !alike(v, want) || m != n || f != e {
		t.Errorf("Read(%s) = %s, %d, %v, want %s, %d, %v", shortBytes(b), short(v), m, f, short(want), n, e)
	}
}

func decodes(t *testing.T, b []byte, want api.Value, e api.Errno) {
	t.Helper()
	if v, f := Decode(b); !alike(v, want) || f != e {
		t.Errorf("Decode(%s) = %s, %v, want %s, %v", shortBytes(b), short(v), f, short(want), e)
	}
}

// refuses fails unless Read and Decode answer this error and nothing beside it.
func refuses(t *testing.T, b []byte, e api.Errno) {
	t.Helper()
	reads(t, b, api.Value{}, 0, e)
	decodes(t, b, api.Value{}, e)
}

// bytesAsTheChapter fails unless Read and Decode answer of b what the chapter says.
func bytesAsTheChapter(t *testing.T, b []byte) {
	t.Helper()
	v, n, e := chapterRead(b)
	reads(t, b, v, n, e)
	w, f := chapterDecode(b)
	decodes(t, b, w, f)
	if f == api.OK {
		encodes(t, w, b, api.OK)
	}
}

// valueAsTheChapter fails unless Encode and Hash answer of v what the chapter says.
func valueAsTheChapter(t *testing.T, v api.Value) {
	t.Helper()
	b, e := chapterEncode(v)
	encodes(t, v, b, e)
	if e != api.OK {
		hashes(t, v, api.Hash{}, e)
		return
	}
	hashes(t, v, sha256.Sum256(cat([]byte{0}, b)), api.OK)
	decodes(t, b, v, api.OK)
	reads(t, b, v, len(b), api.OK)
}

// P7.1: Encode

// known are values with their bytes, written out.
func known() []struct {
	v api.Value
	b []byte
} {
	return []struct {
		v api.Value
		b []byte
	}{
		{num(-1), []byte{3, 1}},
		{text("ab"), []byte{6, 2, 'a', 'b'}},
		{list(null()), []byte{8, 1, 1}},
		{null(), []byte{1}},
		{truth(0), []byte{2, 0}},
		{truth(1), []byte{2, 1}},
		{num(0), []byte{3, 0}},
		{num(1), []byte{3, 2}},
		{num(-2), []byte{3, 3}},
		{num(63), []byte{3, 126}},
		{num(-64), []byte{3, 127}},
		{num(64), []byte{3, 0x80, 1}},
		{num(150), []byte{3, 0xac, 2}},
		{num(math.MaxInt), []byte{3, 0xfe, 0xff, 0xff, 0xff, 0xff, 0xff, 0xff, 0xff, 0xff, 1}},
		{num(math.MinInt), []byte{3, 0xff, 0xff, 0xff, 0xff, 0xff, 0xff, 0xff, 0xff, 0xff, 1}},
		{dec(25, 1), []byte{4, 50, 1}},
		{dec(-15, 1), []byte{4, 29, 1}},
		{dec(-5, 18), []byte{4, 9, 18}},
		{dec(64, 2), []byte{4, 0x80, 1, 2}},
		{clock(0), []byte{5, 0}},
		{clock(127), []byte{5, 127}},
		{clock(300), []byte{5, 0xac, 2}},
		{clock(1 << 53), []byte{5, 0x80, 0x80, 0x80, 0x80, 0x80, 0x80, 0x80, 0x10}},
		{text(""), []byte{6, 0}},
		{text("é"), []byte{6, 2, 0xc3, 0xa9}},
		{blob(""), []byte{7, 0}},
		{blob("\x00\xff"), []byte{7, 2, 0, 0xff}},
		{list(), []byte{8, 0}},
		{list(truth(1), list(), num(-1)), []byte{8, 3, 2, 1, 8, 0, 3, 1}},
		{record(""), []byte{9, 0}},
		{under("a", null()), []byte{9, 1, 1, 'a', 1}},
		{record("a bc", num(-1), text("d")), []byte{9, 2, 1, 'a', 3, 1, 2, 'b', 'c', 6, 1, 'd'}},
		{under("x", under("y", list(clock(5)))), []byte{9, 1, 1, 'x', 9, 1, 1, 'y', 8, 1, 5, 5}},
		{letters(128), cat([]byte{6, 0x80, 1}, rep('x', 128))},
		{blob(strings.Repeat("x", 1<<14)), cat([]byte{7, 0x80, 0x80, 1}, rep('x', 1<<14))},
		{list(many(200)...), cat([]byte{8, 0xc8, 1}, rep(1, 200))},
		{nested(null(), 2), []byte{9, 1, 2, 'i', 'n', 8, 1, 1}},
	}
}

func TestEncodeKnown(t *testing.T) {
	for _, c := range known() {
		encodes(t, c.v, c.b, api.OK)
	}
}

func TestEncodeOrdinary(t *testing.T) {
	for _, v := range append(ordinary(), greatest()...) {
		valueAsTheChapter(t, v)
		if b, e := Encode(v); e != api.OK || len(b) == 0 {
			t.Errorf("Encode(%s): %d bytes, %v", short(v), len(b), e)
		}
	}
}

func TestEncodeWithin(t *testing.T) {
	for _, v := range ordinary() {
		valueAsTheChapter(t, list(v, v))
		valueAsTheChapter(t, record("a b c", v, list(v), under("d", v)))
		valueAsTheChapter(t, nested(v, api.MaxDeep-5))
	}
}

func TestEncodeAndHashRefuse(t *testing.T) {
	for _, f := range faults() {
		for _, v := range []api.Value{f.v, list(f.v), list(null(), f.v, null()), record("a b", text("x"), f.v)} {
			encodes(t, v, nil, f.e)
			hashes(t, v, api.Hash{}, f.e)
		}
	}
}

// A list that is within itself is too deep.
func TestEncodeOfALoop(t *testing.T) {
	kids := make([]api.Value, 2)
	kids[0] = api.Value{Kind: api.List, Kids: kids}
	if b, e := Encode(kids[0]); b != nil || e != api.ErrDeep {
		t.Errorf("Encode of a loop = %s, %v", shortBytes(b), e)
	}
	if h, e := Hash(kids[0]); h != (api.Hash{}) || e != api.ErrDeep {
		t.Errorf("Hash of a loop = %x, %v", h, e)
	}
}

// around are values that take just n bytes, of all shapes.
func around(n int) []api.Value {
	full := letters(1 << 14)
	out := []api.Value{sized(n)}
	// What stands last is a text, a blob, a name with its kid, a number, nothing within a list.
	for _, last := range []api.Value{text(""), blob("z"), under("last", null()), num(math.MinInt), dec(math.MaxInt, 18), clock(1 << 53), list(), list(list(many(150)...)), record("")} {
		v := list(full, full, full, letters(1<<13), letters(0), last)
		v.Kids[4] = letters(n - len(chapterBytes(v)) - 1)
		w := record("a b c d e f", v.Kids...)
		w.Kids = slices.Clone(v.Kids)
		w.Kids[4] = letters(len(v.Kids[4].Text) - 12)
		out = append(out, v, w)
	}
	return out
}

func TestEncodeMaxBytes(t *testing.T) {
	for _, n := range []int{api.MaxBytes - 1, api.MaxBytes} {
		for _, v := range around(n) {
			b := chapterBytes(v)
			if len(b) != n {
				t.Fatalf("%d bytes, not %d", len(b), n)
			}
			valueAsTheChapter(t, v)
			encodes(t, v, b, api.OK)
			hashes(t, v, digest.Leaf(b), api.OK)
		}
	}
	for _, n := range []int{api.MaxBytes + 1, api.MaxBytes + 2, api.MaxBytes + 300} {
		for _, v := range around(n) {
			encodes(t, v, nil, api.ErrLong)
			hashes(t, v, api.Hash{}, api.ErrLong)
		}
	}
}

func TestEncodeOfFarTooMany(t *testing.T) {
	for _, v := range []api.Value{
		list(slices.Repeat([]api.Value{letters(1 << 14)}, 5)...), list(slices.Repeat([]api.Value{letters(1 << 14)}, 200)...),
		list(slices.Repeat([]api.Value{wide(200)}, 200)...), nested(list(slices.Repeat([]api.Value{wide(200)}, 200)...), 10),
		list(slices.Repeat([]api.Value{list(slices.Repeat([]api.Value{list(many(200)...)}, 200)...)}, 20)...),
	} {
		if e := value.Check(v); e != api.OK {
			t.Fatalf("Check = %v", e)
		}
		encodes(t, v, nil, api.ErrLong)
		hashes(t, v, api.Hash{}, api.ErrLong)
	}
}

// Check's error is ahead of that of too many bytes, wherever its cause stands.
func TestEncodeCheckIsAhead(t *testing.T) {
	bulk := slices.Repeat([]api.Value{letters(1 << 14)}, 6)
	for _, f := range faults() {
		for at := range len(bulk) + 1 {
			v := list(slices.Insert(slices.Clone(bulk), at, f.v)...)
			encodes(t, v, nil, f.e)
			hashes(t, v, api.Hash{}, f.e)
		}
	}
}

// P7.1: Hash

func TestHashIsLeafOfEncode(t *testing.T) {
	for _, v := range append(ordinary(), greatest()...) {
		b, e := Encode(v)
		if e != api.OK {
			t.Fatalf("Encode(%s): %v", short(v), e)
		}
		hashes(t, v, digest.Leaf(b), api.OK)
		hashes(t, v, sha256.Sum256(cat([]byte{0}, b)), api.OK)
	}
}

func TestHashKnown(t *testing.T) {
	// Of one byte 00, and the byte of Null.
	hashes(t, null(), sha256.Sum256([]byte{0, 1}), api.OK)
	h, e := Hash(null())
	if s := digest.Hex(h); s != "b413f47d13ee2fe6c845b2ee141af81de858df4ec549a58b7970bb96645bc8d2" || e != api.OK {
		t.Errorf("Hash of Null = %s, %v", s, e)
	}
}

func TestHashesOfUnlikeValues(t *testing.T) {
	seen := map[api.Hash]string{}
	for _, v := range ordinary() {
		h, e := Hash(v)
		b := string(chapterBytes(v))
		if other, has := seen[h]; e != api.OK || has && other != b {
			t.Errorf("Hash(%s): %v, also of % x", short(v), e, other)
		}
		seen[h] = b
	}
}

// P7.1: Read and Decode

// tails are what may stand behind a value.
func tails() [][]byte {
	return [][]byte{{0}, {1}, {9}, {0x80}, {0xff}, {1, 2, 3}, rep(0, 20), rep(0xff, 40), {8, 1}, rep(1, 300)}
}

func TestReadKnown(t *testing.T) {
	for _, c := range known() {
		reads(t, c.b, c.v, len(c.b), api.OK)
		decodes(t, c.b, c.v, api.OK)
	}
}

func TestReadWhateverStandsBehind(t *testing.T) {
	for _, v := range append(ordinary(), greatest()...) {
		b := chapterBytes(v)
		reads(t, b, v, len(b), api.OK)
		decodes(t, b, v, api.OK)
		for _, tail := range append(tails(), rep(1, 1<<17)) {
			reads(t, cat(b, tail), v, len(b), api.OK)
			decodes(t, cat(b, tail), api.Value{}, api.ErrForm)
		}
	}
}

func TestReadOneBehindTheOther(t *testing.T) {
	var b []byte
	for _, v := range ordinary() {
		b = append(b, chapterBytes(v)...)
	}
	for _, v := range ordinary() {
		got, n, e := Read(b)
		if !alike(got, v) || e != api.OK {
			t.Fatalf("Read = %s, %v, want %s", short(got), e, short(v))
		}
		b = b[n:]
	}
	if len(b) != 0 {
		t.Errorf("%d bytes are left", len(b))
	}
}

func TestReadOfNothing(t *testing.T) {
	refuses(t, nil, api.ErrShort)
	refuses(t, []byte{}, api.ErrShort)
	refuses(t, []byte{1, 2, 3}[:0], api.ErrShort)
}

// cuts are the places at which so many bytes are cut: all of few, the first and the last ones of many.
func cuts(n int) []int {
	var out []int
	for i := range n {
		if n < 2000 || i < 50 || i >= n-12 {
			out = append(out, i)
		}
	}
	return out
}

// Bytes that end at any place are too short, also where Check would refuse what they are of.
func TestReadCutAtEachPlace(t *testing.T) {
	all := append(ordinary(), greatest()...)
	for _, f := range written() {
		all = append(all, f.v, list(f.v, null()))
	}
	for _, v := range all {
		b := chapterBytes(v)
		for _, n := range cuts(len(b)) {
			refuses(t, b[:n], api.ErrShort)
		}
	}
}

// wraps are bytes around a value at which one stands next, whatever follows.
func wraps() [][]byte {
	return [][]byte{nil, {8, 1}, {8, 3, 1, 2, 1}, {9, 1, 1, 'a'}, {9, 2, 1, 'a', 6, 1, 'x', 1, 'b'}, {8, 1, 9, 1, 0, 8, 2, 1}, lists(14)}
}

// refusedWithin fails unless b is refused by this error at each place where a value may stand, whatever
// is behind it.
func refusedWithin(t *testing.T, b []byte, e api.Errno) {
	t.Helper()
	for _, head := range wraps() {
		refuses(t, cat(head, b), e)
		for _, tail := range tails() {
			refuses(t, cat(head, b, tail), e)
		}
	}
}

func TestReadKindsThatAreNone(t *testing.T) {
	for kind := range 256 {
		if kind < 1 || kind > 9 {
			refusedWithin(t, []byte{byte(kind)}, api.ErrForm)
		}
	}
}

func TestReadBool(t *testing.T) {
	reads(t, []byte{2, 0}, truth(0), 2, api.OK)
	reads(t, []byte{2, 1}, truth(1), 2, api.OK)
	decodes(t, []byte{2, 0}, truth(0), api.OK)
	decodes(t, []byte{2, 1}, truth(1), api.OK)
	for x := 2; x < 256; x++ {
		refusedWithin(t, []byte{2, byte(x)}, api.ErrForm)
	}
}

// numbered are bytes at which a Uvarint stands next.
func numbered() [][]byte {
	return [][]byte{{3}, {4}, {5}, {6}, {7}, {8}, {9}, {9, 1}, {9, 2, 1, 'a', 1}}
}

func TestReadUvarintsThatAreNone(t *testing.T) {
	for _, head := range numbered() {
		for _, u := range [][]byte{
			{0x80, 0}, {0x81, 0}, {0xff, 0}, {0x80, 0x80, 0}, {0xac, 0x82, 0}, cat(rep(0x80, 8), []byte{0}), cat(rep(0xff, 9), []byte{0}),
			cat(rep(0x80, 9), []byte{2}), cat(rep(0xff, 9), []byte{2}), cat(rep(0xff, 9), []byte{0x7f}), rep(0x80, 10), rep(0xff, 10), rep(0xff, 11), cat(rep(0x80, 10), []byte{1}),
		} {
			refusedWithin(t, cat(head, u), api.ErrForm)
		}
		for n := range 10 {
			for _, first := range wraps() {
				refuses(t, cat(first, head, rep(0x80, n)), api.ErrShort)
				refuses(t, cat(first, head, rep(0xff, n)), api.ErrShort)
			}
		}
	}
}

// lengthy are bytes at which a length or a count stands next.
func lengthy() [][]byte { return numbered()[3:] }

func TestReadLengthsAndCountsAboveTheLimit(t *testing.T) {
	for _, head := range lengthy() {
		for _, u := range []uint64{1<<16 + 1, 1<<16 + 2, 1 << 17, 1<<31 - 1, 1 << 31, 1 << 32, 1<<32 + 1, 1<<62 + 1, 1<<63 - 1, 1 << 63, 1<<63 + 1, 1<<64 - 2, 1<<64 - 1} {
			refusedWithin(t, cat(head, uv(u)), api.ErrForm)
			refuses(t, cat(head, uv(u), rep(1, 1<<18)), api.ErrForm)
		}
	}
}

// A length or a count of 2^16 is none that is refused: it is missing, or it is too much for Check.
func TestReadLengthsAndCountsAtTheLimit(t *testing.T) {
	for _, head := range lengthy() {
		for _, n := range []int{1<<16 - 1, 1 << 16} {
			b := cat(head, uv(uint64(n)))
			refuses(t, b, api.ErrShort)
			refuses(t, cat(b, rep(1, n/2)), api.ErrShort)
		}
	}
	for _, n := range []int{1<<14 + 1, 1<<16 - 1, 1 << 16} {
		for _, kind := range []byte{6, 7} {
			b := cat([]byte{kind}, uv(uint64(n)), rep(1, n))
			refuses(t, b[:len(b)-1], api.ErrShort)
			refuses(t, b, api.ErrLong)
			reads(t, cat(b, []byte{0}), api.Value{}, 0, api.ErrLong)
			decodes(t, cat(b, []byte{0}), api.Value{}, api.ErrLong)
		}
		b := cat([]byte{8}, uv(uint64(n)), rep(1, n))
		refuses(t, b[:len(b)-1], api.ErrShort)
		refuses(t, b, api.ErrLong)
		b = cat([]byte{9, 1}, uv(uint64(n)), rep(1, n), []byte{1})
		refuses(t, b[:len(b)-1], api.ErrShort)
		refuses(t, b[:len(b)-2], api.ErrShort)
		refuses(t, b, api.ErrForm)
		b = cat([]byte{9}, uv(uint64(n)), bytes.Repeat([]byte{0, 1}, n))
		refuses(t, b[:len(b)-1], api.ErrShort)
		refuses(t, b, api.ErrLong)
	}
}

// A length that goes beyond b's end is short, even where the missing bytes stand in the spare room.
func TestReadSpareRoomIsNotRead(t *testing.T) {
	for _, v := range ordinary() {
		b := chapterBytes(v)
		room := cat(b, b, b)
		refuses(t, room[:len(b)-1], api.ErrShort)
		reads(t, room[:len(b)], v, len(b), api.OK)
		decodes(t, room[:len(b)], v, api.OK)
	}
}

// lists are n lists, each but the last one with the next one in it.
func lists(n int) []byte { return bytes.Repeat([]byte{8, 1}, n) }

// structs are n structs likewise.
func structs(n int) []byte { return bytes.Repeat([]byte{9, 1, 1, 'a'}, n) }

func TestReadDeep(t *testing.T) {
	for _, v := range append(ordinary(), letters(1<<14)) {
		if len(v.Kids) > 0 {
			continue
		}
		for n := range api.MaxDeep {
			b := chapterBytes(nested(v, n))
			reads(t, b, nested(v, n), len(b), api.OK)
			decodes(t, b, nested(v, n), api.OK)
		}
		for _, n := range []int{api.MaxDeep, api.MaxDeep + 1, 100} {
			refuses(t, chapterBytes(nested(v, n)), api.ErrDeep)
		}
	}
	refuses(t, cat(lists(1<<20), []byte{1}), api.ErrDeep)
	refuses(t, cat(structs(1<<20), []byte{1}), api.ErrDeep)
}

// Where one too deep would begin nothing is looked at: neither whether b ends there, nor what it is.
func TestReadDeepWhateverStandsThere(t *testing.T) {
	for _, head := range [][]byte{lists(16), structs(16), cat(lists(9), structs(7)), cat(structs(9), lists(7)), cat([]byte{8, 2}, lists(15))} {
		refuses(t, head, api.ErrDeep)
		for x := range 256 {
			refuses(t, cat(head, []byte{byte(x)}), api.ErrDeep)
		}
		for _, tail := range tails() {
			refuses(t, cat(head, tail), api.ErrDeep)
		}
	}
}

// Ahead of the place at which one too deep would begin, the bytes are gone through as elsewhere.
func TestReadAheadOfTheTooDeep(t *testing.T) {
	for _, head := range [][]byte{lists(15), structs(15)} {
		refuses(t, head, api.ErrShort)
		refuses(t, cat(head, []byte{8}), api.ErrShort)
		refuses(t, cat(head, []byte{9}), api.ErrShort)
		refuses(t, cat(head, []byte{10}), api.ErrForm)
		refuses(t, cat(head, []byte{8, 0x80, 0}), api.ErrForm)
		refuses(t, cat(head, []byte{8, 0x81, 0x80, 4}), api.ErrForm)
		refuses(t, cat(head, []byte{8, 0x80, 0x80, 4}), api.ErrDeep)
		refuses(t, cat(head, []byte{9, 1}), api.ErrShort)
		refuses(t, cat(head, []byte{9, 1, 1}), api.ErrShort)
		refuses(t, cat(head, []byte{9, 1, 2, 'a'}), api.ErrShort)
		refuses(t, cat(head, []byte{9, 1, 0x80, 0}), api.ErrForm)
		refuses(t, cat(head, []byte{9, 1, 0x81, 0x80, 4, 0}), api.ErrForm)
		refuses(t, cat(head, []byte{9, 1, 0}), api.ErrDeep)
		refuses(t, cat(head, []byte{9, 1, 1, 'a'}), api.ErrDeep)
		for _, last := range [][]byte{{8, 0}, {9, 0}, {1}, {6, 1, 8}} {
			b := cat(head, last)
			v, n, e := chapterRead(b)
			if e != api.OK || n != len(b) {
				t.Fatalf("%s: %v", shortBytes(b), e)
			}
			reads(t, b, v, n, api.OK)
		}
	}
}

// marks are bytes of which each stops a reader at once, with the error.
func marks() []struct {
	b []byte
	e api.Errno
} {
	return []struct {
		b []byte
		e api.Errno
	}{
		{[]byte{0}, api.ErrForm}, {[]byte{255}, api.ErrForm}, {[]byte{2, 2}, api.ErrForm}, {[]byte{3, 0x80, 0}, api.ErrForm}, {[]byte{6, 0x81, 0x80, 4}, api.ErrForm}, {[]byte{9, 1, 0xff, 0}, api.ErrForm},
		{lists(16), api.ErrDeep}, {structs(16), api.ErrDeep},
	}
}

// The first that is met, as the bytes are gone through, counts.
func TestReadTheFirstThatIsMet(t *testing.T) {
	for _, m := range marks() {
		refuses(t, cat([]byte{8, 3}, m.b), m.e)
		refuses(t, cat([]byte{8, 3, 1}, m.b), m.e)
		refuses(t, cat([]byte{9, 2, 1, 'b', 1, 1, 'a'}, m.b), m.e)
		for _, k := range marks() {
			refuses(t, cat([]byte{8, 3}, m.b, k.b), m.e)
			refuses(t, cat([]byte{8, 3, 1}, m.b, k.b, rep(1, 9)), m.e)
		}
	}
	// One too deep behind a length that b has no room for, and the other way round.
	refuses(t, cat([]byte{8, 2, 6, 99}, lists(16)), api.ErrShort)
	refuses(t, cat([]byte{8, 2}, lists(16), []byte{6, 99}), api.ErrDeep)
}

// What Check refuses counts only where all bytes could be gone through: also if it stands ahead.
func TestReadCheckIsBehindWhatIsMet(t *testing.T) {
	for _, f := range written() {
		b := chapterBytes(f.v)
		refuses(t, cat([]byte{8, 2}, b), api.ErrShort)
		refuses(t, cat([]byte{8, 2}, b, []byte{6, 1}), api.ErrShort)
		refuses(t, cat([]byte{9, 2, 0}, b, []byte{0}), api.ErrShort)
		for _, m := range marks() {
			refuses(t, cat([]byte{8, 2}, b, m.b), m.e)
			refuses(t, cat([]byte{8, 2}, b, m.b, rep(1, 9)), m.e)
			refuses(t, cat([]byte{9, 2, 0}, b, []byte{0}, m.b), m.e)
		}
	}
}

func TestReadWhatCheckRefuses(t *testing.T) {
	for _, f := range written() {
		if e := value.Check(f.v); e != f.e {
			t.Fatalf("Check(%s) = %v, want %v", short(f.v), e, f.e)
		}
		b := chapterBytes(f.v)
		for _, head := range [][]byte{nil, {8, 1}, {8, 2, 1}, {9, 1, 1, 'a'}, {9, 2, 1, 'a', 6, 1, 'x', 1, 'b'}, cat(lists(7), structs(5))} {
			refuses(t, cat(head, b), f.e)
			// Check's error is ahead of something behind, whatever that is.
			for _, tail := range [][]byte{{0}, {1}, rep(0xff, 40)} {
				refuses(t, cat(head, b, tail), f.e)
			}
		}
	}
}

func TestReadTimes(t *testing.T) {
	for _, u := range []uint64{0, 1, 1<<53 - 1, 1 << 53} {
		decodes(t, cat([]byte{5}, uv(u)), clock(int(u)), api.OK)
	}
	for _, u := range []uint64{1<<53 + 1, 1 << 54, 1 << 62, 1<<63 - 1, 1 << 63, 1<<63 + 1, 1<<64 - 1, 1<<64 - 1<<53} {
		b := cat([]byte{5}, uv(u))
		refuses(t, b, api.ErrForm)
		// It is a Uvarint, so Check alone refuses it: behind what is met further on.
		refuses(t, cat([]byte{8, 2}, b), api.ErrShort)
		refuses(t, cat([]byte{8, 2}, b, lists(16)), api.ErrDeep)
		refuses(t, cat([]byte{8, 2}, b, chapterBytes(letters(1<<14+1))), api.ErrForm)
		refuses(t, cat([]byte{8, 2}, chapterBytes(letters(1<<14+1)), b), api.ErrLong)
	}
}

func TestReadDecimals(t *testing.T) {
	for scale := range 256 {
		for _, n := range []int{1, -1, 5, 25, math.MaxInt, math.MinInt, 0, 10, -20, 1000} {
			b := cat([]byte{4}, binary.AppendVarint(nil, int64(n)), []byte{byte(scale)})
			if scale >= 1 && scale <= 18 && n%10 != 0 {
				reads(t, b, dec(n, scale), len(b), api.OK)
				decodes(t, b, dec(n, scale), api.OK)
				continue
			}
			refuses(t, b, api.ErrForm)
			refuses(t, cat([]byte{8, 2}, b), api.ErrShort)
			refuses(t, cat([]byte{8, 2}, b, lists(16)), api.ErrDeep)
		}
	}
}

func TestReadMaxBytes(t *testing.T) {
	for _, n := range []int{api.MaxBytes - 1, api.MaxBytes} {
		for _, v := range around(n) {
			b := chapterBytes(v)
			reads(t, b, v, n, api.OK)
			decodes(t, b, v, api.OK)
			for _, tail := range tails() {
				reads(t, cat(b, tail), v, n, api.OK)
				decodes(t, cat(b, tail), api.Value{}, api.ErrForm)
			}
			refuses(t, b[:n-1], api.ErrShort)
		}
	}
	for _, n := range []int{api.MaxBytes + 1, api.MaxBytes + 2, api.MaxBytes + 300} {
		for _, v := range around(n) {
			b := chapterBytes(v)
			refuses(t, b, api.ErrLong)
			for _, tail := range tails() {
				reads(t, cat(b, tail), api.Value{}, 0, api.ErrLong)
				// Something behind is ahead of too many bytes.
				decodes(t, cat(b, tail), api.Value{}, api.ErrForm)
			}
			refuses(t, b[:len(b)-1], api.ErrShort)
			refuses(t, b[:api.MaxBytes], api.ErrShort)
		}
	}
}

// bulky are kids of more than MaxBytes in all, of all shapes.
func bulky() []api.Value {
	out := slices.Repeat([]api.Value{letters(1 << 14)}, 5)
	return append(out, nested(letters(1<<14), 3), wide(200), list(many(200)...), record("a b", num(1), list(wide(3), wide(3))))
}

// Of what goes beyond MaxBytes all other errors are told as of what does not, on both sides of the limit.
func TestReadTooLongIsBehindAllOthers(t *testing.T) {
	refused := append(written(), []fault{
		{list(record("b a", letters(1<<14+1), null())), api.ErrForm}, {list(wide(201), under("", null())), api.ErrLong}, {record("b b", wide(201), wide(201)), api.ErrForm},
		{under("a", list(under("", list(letters(1<<14+1))))), api.ErrForm}, {record("a b", list(dec(20, 1)), wide(201)), api.ErrForm},
	}...)
	for at := range len(bulky()) + 1 {
		for _, f := range refused {
			if len(f.v.Kids) > 1<<12 {
				continue
			}
			kids := slices.Insert(bulky(), at, f.v)
			names := strings.Fields("a b c d e f g h i j")
			for _, v := range []api.Value{list(kids...), {Kind: api.Struct, Names: names, Kids: kids}, nested(list(kids...), 5)} {
				b := chapterBytes(v)
				refuses(t, b, f.e)
				refuses(t, cat(b, []byte{1}), f.e)
				refuses(t, b[:len(b)-1], api.ErrShort)
			}
			// The names of the outer one are ahead of the kids, wherever they stand.
			for _, wrong := range []int{0, 4, 5, 9} {
				bad := slices.Clone(names)
				bad[wrong] = ""
				refuses(t, chapterBytes(api.Value{Kind: api.Struct, Names: bad, Kids: kids}), api.ErrForm)
			}
			// How many there are is ahead of both.
			refuses(t, chapterBytes(list(append(kids, many(200)...)...)), api.ErrLong)
		}
		for _, m := range marks() {
			var b []byte
			for i, kid := range slices.Insert(bulky(), at, api.Value{}) {
				if i == at {
					b = append(b, m.b...)
				} else {
					b = append(b, chapterBytes(kid)...)
				}
			}
			refuses(t, cat([]byte{8, 10}, b), m.e)
		}
	}
}

// Of two that Check refuses the first one counts, on both sides of the limit.
func TestReadTooLongWithTwoRefused(t *testing.T) {
	pair := []fault{{letters(1<<14 + 1), api.ErrLong}, {dec(20, 1), api.ErrForm}, {under("", letters(1<<14+1)), api.ErrForm}, {list(many(201)...), api.ErrLong}}
	for first := range len(bulky()) + 1 {
		for last := first + 1; last < len(bulky())+2; last += 3 {
			for _, f := range pair {
				for _, g := range pair {
					kids := slices.Insert(slices.Insert(bulky(), first, f.v), last, g.v)
					reads(t, chapterBytes(list(kids...)), api.Value{}, 0, f.e)
					decodes(t, chapterBytes(list(list(kids...), g.v)), api.Value{}, f.e)
					reads(t, chapterBytes(list(list(bulky()...), list(kids...))), api.Value{}, 0, f.e)
				}
			}
		}
	}
}

// What Check would take but is far too long.
func TestReadFarTooLong(t *testing.T) {
	block := list(slices.Repeat([]api.Value{wide(200)}, 200)...)
	for _, v := range []api.Value{block, nested(block, 13), list(block, block), list(slices.Repeat([]api.Value{letters(1 << 14)}, 200)...)} {
		b := chapterBytes(v)
		refuses(t, b, api.ErrLong)
		reads(t, cat(b, []byte{1}), api.Value{}, 0, api.ErrLong)
		decodes(t, cat(b, []byte{1}), api.Value{}, api.ErrForm)
		refuses(t, b[:len(b)-1], api.ErrShort)
	}
}

// W1: bytes of which a value in memory would be many times greater are gone through without it.
func TestReadOfGreatBytesTakesLittleMemory(t *testing.T) {
	row := cat([]byte{8}, uv(200), rep(1, 200))
	for range 2 {
		row = cat([]byte{8}, uv(200), bytes.Repeat(row, 200))
	}
	long := cat([]byte{8}, uv(1<<16), rep(1, 1<<16))
	long = cat([]byte{8}, uv(100), bytes.Repeat(long, 100))
	var before, behind runtime.MemStats
	runtime.ReadMemStats(&before)
	reads(t, row, api.Value{}, 0, api.ErrLong)
	decodes(t, long, api.Value{}, api.ErrLong)
	runtime.ReadMemStats(&behind)
	if grown := int(behind.HeapSys) - int(before.HeapSys); grown > 1<<28 {
		t.Errorf("%d bytes take %d of memory", len(row), grown)
	}
}

// Many bytes against the chapter

func TestEveryFewBytes(t *testing.T) {
	bytesAsTheChapter(t, nil)
	for a := range 256 {
		bytesAsTheChapter(t, []byte{byte(a)})
		for b := range 256 {
			bytesAsTheChapter(t, []byte{byte(a), byte(b)})
			if a > 10 {
				continue
			}
			for _, c := range []byte{0, 1, 2, 9, 10, 18, 19, 0x7f, 0x80, 0xff} {
				bytesAsTheChapter(t, []byte{byte(a), byte(b), c})
			}
		}
	}
}

func TestEveryRowOfSomeBytes(t *testing.T) {
	some := []byte{0, 1, 2, 3, 4, 5, 6, 8, 9, 10, 0x80, 0xff}
	b := make([]byte, 0, 5)
	var each func()
	each = func() {
		bytesAsTheChapter(t, b)
		if len(b) == cap(b) {
			return
		}
		for _, x := range some {
			b = append(b, x)
			each()
			b = b[:len(b)-1]
		}
	}
	each()
}

// maker makes values out of bytes: the same of the same bytes.
type maker struct {
	from []byte
	ill  bool // now and then what is no value
}

func (m *maker) next() int {
	if len(m.from) == 0 {
		return 0
	}
	b := m.from[0]
	m.from = m.from[1:]
	return int(b)
}

// pick is one of these.
func pick[T any](m *maker, of ...T) T { return of[m.next()%len(of)] }

func (m *maker) name() string {
	if m.ill && m.next()%16 == 0 {
		return pick(m, "", strings.Repeat("n", 40), strings.Repeat("n", 41))
	}
	return pick(m, "a", "b", "ab", "c", "\x00", "\xff", "a\x00", "é", "\x01\x08", "\x80")
}

func (m *maker) number() int {
	n := pick(m, 0, 1, -1, 2, 9, 10, 25, -25, 63, 64, -64, -65, 99, 100, math.MaxInt, math.MinInt, 1<<53, 1<<53+1, 1<<32, m.next()-128, m.next()<<8+m.next())
	if m.next()%8 == 0 {
		n += m.next() - 128
	}
	return n
}

func (m *maker) value(deep int) api.Value {
	v := api.Value{Kind: m.next()%9 + 1}
	switch v.Kind {
	case api.Bool:
		v.Int = m.next() % 2
	case api.Int:
		v.Int = m.number()
	case api.Decimal:
		v.Int, v.Scale = m.number(), m.next()%18+1
		if m.ill && m.next()%8 == 0 {
			v.Scale = m.next() % 30
		}
		if !m.ill && v.Int%10 == 0 {
			v.Int++
		}
	case api.Time:
		v.Int = m.next()<<16 + m.next()
		if m.ill {
			v.Int = m.number()
		}
	case api.Text, api.Blob:
		v.Text = strings.Repeat(m.name(), pick(m, 0, 1, 1, 2, 60))
		if m.ill && m.next()%16 == 0 {
			v.Text = strings.Repeat("x", pick(m, 1<<14, 1<<14+1))
		}
	case api.List, api.Struct:
		m.kids(&v, deep)
	}
	return v
}

func (m *maker) kids(v *api.Value, deep int) {
	n := m.next() % 5
	if deep >= 6 && !m.ill || deep > 20 {
		n = 0
	}
	for range n {
		v.Kids = append(v.Kids, m.value(deep+1))
		if v.Kind == api.Struct {
			v.Names = append(v.Names, m.name())
		}
	}
	if m.ill && m.next()%24 == 0 {
		v.Kids = append(v.Kids, nested(null(), m.next()%18))
		v.Names = append(v.Names, m.name())[:len(v.Names)+v.Kind-api.List]
	}
	if v.Kind == api.Struct && !(m.ill && m.next()%4 == 0) {
		slices.Sort(v.Names)
		v.Names = slices.Compact(v.Names)
		v.Kids = v.Kids[:len(v.Names)]
	}
}

func bytesOf(r *rand.Rand, n int) []byte {
	b := make([]byte, n)
	r.Read(b)
	return b
}

// spoilt is bytes of which some are others, missing or too many.
func spoilt(r *rand.Rand, b []byte) []byte {
	b = bytes.Clone(b)
	for range 1 + r.Intn(2) {
		at := r.Intn(len(b) + 1)
		switch r.Intn(4) {
		case 0:
			b = b[:at]
		case 1:
			b = slices.Insert(b, at, byte(r.Intn(256)>>r.Intn(8)))
		case 2:
			b = slices.Delete(b, at, min(at+1, len(b)))
		case 3:
			if at < len(b) {
				b[at] = byte(r.Intn(256) >> r.Intn(8))
			}
		}
	}
	return b
}

func TestManyAsTheChapter(t *testing.T) {
	r := rand.New(rand.NewSource(7))
	for range 30000 {
		m := &maker{from: bytesOf(r, 100), ill: r.Intn(2) == 0}
		v := m.value(1)
		valueAsTheChapter(t, v)
		b := chapterBytes(v)
		bytesAsTheChapter(t, b)
		bytesAsTheChapter(t, spoilt(r, b))
		bytesAsTheChapter(t, spoilt(r, b))
		bytesAsTheChapter(t, bytesOf(r, r.Intn(12)))
	}
}

// P7.2

func TestDecodeOfEncodeIsTheValue(t *testing.T) {
	for _, v := range append(ordinary(), greatest()...) {
		b, e := Encode(v)
		if e != api.OK {
			t.Fatalf("Encode(%s): %v", short(v), e)
		}
		got, e := Decode(b)
		if e != api.OK || !alike(got, v) || !value.Same(got, v) {
			t.Errorf("Decode of Encode of %s = %s, %v", short(v), short(got), e)
		}
	}
}

// What Decode takes has one form: of all bytes that are taken, Encode writes just them.
func TestWhatDecodeTakesIsWhatEncodeWrites(t *testing.T) {
	r := rand.New(rand.NewSource(72))
	taken := 0
	for _, v := range append(ordinary(), greatest()...) {
		whole := chapterBytes(v)
		for range 300 {
			b := spoilt(r, whole)
			got, e := Decode(b)
			if e != api.OK {
				continue
			}
			taken++
			if again, e := Encode(got); !bytes.Equal(again, b) || e != api.OK {
				t.Fatalf("Encode of Decode of %s = %s, %v", shortBytes(b), shortBytes(again), e)
			}
		}
	}
	if taken < 1000 {
		t.Errorf("only %d were taken", taken)
	}
}

// What Read takes is what Encode writes, too, with something behind.
func TestWhatReadTakesIsWhatEncodeWrites(t *testing.T) {
	r := rand.New(rand.NewSource(73))
	for range 100000 {
		b := bytesOf(r, 8)
		b[0], b[1] = byte(r.Intn(10)), b[1]>>r.Intn(8)
		v, n, e := Read(b)
		if e == api.OK {
			encodes(t, v, b[:n], api.OK)
		}
	}
}

// A field that its Kind does not name has nothing, and no list has an element too many.
func TestAnswersHaveNothingElse(t *testing.T) {
	for _, v := range append(ordinary(), greatest()...) {
		got, e := Decode(chapterBytes(v))
		if e != api.OK || value.Check(got) != api.OK {
			t.Errorf("Check of Decode of %s = %v", short(v), value.Check(got))
		}
		if v.Kind == api.List && got.Names != nil {
			t.Errorf("a list with names: %s", short(got))
		}
	}
}

// W6, W7: what is handed in and what is answered

// spared is a value in memory of its own, each list with spare room behind its end.
func spared(v api.Value) api.Value {
	names, kids := make([]string, len(v.Names)+2), make([]api.Value, len(v.Kids)+2)
	copy(names, v.Names)
	for i, kid := range v.Kids {
		kids[i] = spared(kid)
	}
	names[len(v.Names)], kids[len(v.Kids)] = "spare", text("spare")
	v.Names, v.Kids = names[:len(v.Names)], kids[:len(v.Kids)]
	return v
}

// whole is all of a value as a text, spare room too.
func whole(v api.Value) string {
	var out strings.Builder
	fmt.Fprintf(&out, "%d %d %d %q %q %d[", v.Kind, v.Int, v.Scale, v.Text, v.Names[:cap(v.Names)], len(v.Kids))
	for _, kid := range v.Kids[:cap(v.Kids)] {
		out.WriteString(whole(kid))
	}
	return out.String() + "]"
}

// turn makes all memory of a value another one, spare room too.
func turn(v api.Value) {
	for i := range v.Names[:cap(v.Names)] {
		v.Names[:cap(v.Names)][i] += "turned"
	}
	for i, kid := range v.Kids[:cap(v.Kids)] {
		turn(kid)
		v.Kids[:cap(v.Kids)][i] = api.Value{Kind: -kid.Kind, Int: ^kid.Int, Text: kid.Text + "turned"}
	}
}

// turnBytes makes every byte of a list and of its spare room another one.
func turnBytes(b []byte) {
	b = b[:cap(b)]
	for i := range b {
		b[i] ^= 0xff
	}
}

// samples are what the calls are given here, values and others.
func samples() []api.Value {
	shared := list(num(1), list(text("x"), under("y", blob("z"))))
	out := []api.Value{record("a b c", shared, shared, list(shared, shared)), list(shared, shared), wide(20), nested(text("in"), 15), nested(null(), 16), sized(api.MaxBytes), sized(api.MaxBytes + 1), record("b a", shared, shared), list(shared, api.Value{})}
	return append(out, ordinary()[:60]...)
}

// rows are bytes that the calls take or refuse.
func rows() [][]byte {
	var out [][]byte
	for _, v := range samples() {
		b := chapterBytes(v)
		out = append(out, b, cat(b, []byte{1}), b[:len(b)-1])
	}
	for _, m := range marks() {
		out = append(out, m.b)
	}
	return append(out, nil)
}

func TestEncodeHandedInIsNotChanged(t *testing.T) {
	for _, v := range samples() {
		given := spared(v)
		before := whole(given)
		b, e := Encode(given)
		h, f := Hash(given)
		turnBytes(b)
		if whole(given) != before {
			t.Errorf("Encode or Hash of %s changes it", short(v))
		}
		turnBytes(b)
		encodes(t, given, b, e)
		hashes(t, given, h, f)
	}
}

func TestEncodeHandedInIsNotKept(t *testing.T) {
	for _, v := range samples() {
		given := spared(v)
		b, e := Encode(given)
		want := bytes.Clone(b)
		turn(given)
		if !bytes.Equal(b, want) {
			t.Errorf("Encode(%s): the answer shares memory with it", short(v))
		}
		encodes(t, v, want, e)
		encodes(t, spared(v), want, e)
	}
}

func TestEncodeAnswersAreNewMemory(t *testing.T) {
	for _, v := range samples() {
		first, e := Encode(v)
		second, _ := Encode(v)
		want := bytes.Clone(first)
		turnBytes(second)
		if !bytes.Equal(first, want) {
			t.Errorf("Encode(%s): two answers share memory", short(v))
		}
		turnBytes(first)
		encodes(t, v, want, e)
	}
}

// calls are the two that read, each told as a value and a text.
func calls() map[string]func(b []byte) (api.Value, string) {
	return map[string]func(b []byte) (api.Value, string){
		"Read": func(b []byte) (api.Value, string) {
			v, n, e := Read(b)
			return v, fmt.Sprint(n, e)
		},
		"Decode": func(b []byte) (api.Value, string) {
			v, e := Decode(b)
			return v, fmt.Sprint(e)
		},
	}
}

func TestReadHandedInIsNotChanged(t *testing.T) {
	for name, call := range calls() {
		for _, b := range rows() {
			room := cat(b, rep(0xa5, 32))
			v, _ := call(room[:len(b)])
			turn(v)
			if !bytes.Equal(room, cat(b, rep(0xa5, 32))) {
				t.Errorf("%s(%s) changed it", name, shortBytes(b))
			}
		}
	}
}

func TestReadHandedInIsNotKept(t *testing.T) {
	for name, call := range calls() {
		for _, b := range rows() {
			given := cat(b, rep(0xa5, 32))[:len(b)]
			v, said := call(given)
			want := whole(v)
			turnBytes(given)
			if whole(v) != want {
				t.Errorf("%s(%s): the answer shares memory with it", name, shortBytes(b))
			}
			if again, saidAgain := call(bytes.Clone(b)); !alike(again, v) || saidAgain != said {
				t.Errorf("%s(%s): another answer at the second time", name, shortBytes(b))
			}
		}
	}
}

// places counts where each element of each list stands, spare room too.
func places(v api.Value, count map[any]int) {
	names, kids := v.Names[:cap(v.Names)], v.Kids[:cap(v.Kids)]
	for i := range names {
		count[&names[i]]++
	}
	for i := range kids {
		count[&kids[i]]++
		places(kids[i], count)
	}
}

func TestReadAnswersAreNewMemory(t *testing.T) {
	for name, call := range calls() {
		for _, b := range rows() {
			first, _ := call(b)
			second, _ := call(b)
			count := map[any]int{}
			places(first, count)
			places(second, count)
			for _, n := range count {
				if n != 1 {
					t.Fatalf("%s(%s): one place is in %d lists that are answered", name, shortBytes(b), n)
				}
			}
		}
	}
}

func TestAnswersStay(t *testing.T) {
	var values []api.Value
	var said []string
	for _, b := range rows() {
		for _, call := range calls() {
			v, _ := call(b)
			values, said = append(values, v), append(said, whole(v))
		}
	}
	var lists, copies [][]byte
	for _, v := range samples() {
		b, _ := Encode(v)
		lists, copies = append(lists, b), append(copies, bytes.Clone(b))
	}
	for i, v := range values {
		Encode(v)
		Hash(v)
		if whole(v) != said[i] {
			t.Fatalf("the answer %s became another one", said[i])
		}
	}
	if !slices.EqualFunc(lists, copies, bytes.Equal) {
		t.Error("bytes that were answered became others")
	}
}

// W2: calls side by side answer as they do alone.
func TestSideBySide(t *testing.T) {
	all := append(ordinary(), greatest()...)
	var group sync.WaitGroup
	for range 8 {
		group.Go(func() {
			for _, v := range all {
				valueAsTheChapter(t, v)
				bytesAsTheChapter(t, cat(chapterBytes(v), []byte{1}))
			}
		})
	}
	group.Wait()
}

// W1: whatever bytes come, every call ends and answers what the chapter says.
func FuzzAnyBytes(f *testing.F) {
	for _, b := range rows() {
		if len(b) < 1000 {
			f.Add(b)
		}
	}
	f.Fuzz(func(t *testing.T, b []byte) {
		bytesAsTheChapter(t, b)
		// Any bytes behind these reach what a fuzzer hardly finds.
		for _, head := range wraps() {
			bytesAsTheChapter(t, cat(head, b))
		}
		for _, kind := range []byte{6, 7} {
			bytesAsTheChapter(t, cat([]byte{kind}, uv(uint64(len(b))), b))
		}
		v := (&maker{from: b, ill: len(b)%2 == 0}).value(1)
		valueAsTheChapter(t, v)
		bytesAsTheChapter(t, chapterBytes(v))
	})
}
