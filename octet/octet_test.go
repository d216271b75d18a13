package octet

import (
	"bytes"
	"encoding/binary"
	"hash/crc32"
	"math"
	"testing"

	"scrivener/api"
)

// edges are the numbers around each power of two, the least and the greatest
// among them: every width of a Uvarint begins and ends at one of them.
func edges() []uint64 {
	out := []uint64{0, 300, 0x0102030405060708, 0xdeadbeef, 0xf0e1d2c3b4a59687, math.MaxUint64}
	for i := range 64 {
		p := uint64(1) << i
		out = append(out, p-1, p, p+1)
	}
	return out
}

// spread is n numbers of all widths, the same at each run.
func spread(n int) []uint64 {
	out := make([]uint64, n)
	x := uint64(1)
	for i := range out {
		x = x*6364136223846793005 + 1442695040888963407
		out[i] = x >> (i % 64)
	}
	return out
}

func numbers() []uint64 { return append(edges(), spread(4096)...) }

// tails are what may stand behind the bytes that are read.
func tails() [][]byte {
	return [][]byte{nil, {0}, {0xff}, {0x80, 0x80}, bytes.Repeat([]byte{0xff}, 12), bytes.Repeat([]byte{0}, 12)}
}

func rep(x byte, n int) []byte { return bytes.Repeat([]byte{x}, n) }

func cat(parts ...[]byte) []byte { return bytes.Join(parts, nil) }

// P1.1

func TestUvarintForm(t *testing.T) {
	for _, c := range []struct {
		v    uint64
		want []byte
	}{
		{0, []byte{0x00}},
		{1, []byte{0x01}},
		{0x7f, []byte{0x7f}},
		{0x80, []byte{0x80, 0x01}},
		{300, []byte{0xac, 0x02}},
		{0x3fff, []byte{0xff, 0x7f}},
		{0x4000, []byte{0x80, 0x80, 0x01}},
		{1<<63 - 1, cat(rep(0xff, 8), []byte{0x7f})},
		{1 << 63, cat(rep(0x80, 9), []byte{0x01})},
		{math.MaxUint64, cat(rep(0xff, 9), []byte{0x01})},
	} {
		if got := Uvarint(c.v); !bytes.Equal(got, c.want) {
			t.Errorf("Uvarint(%d) = % x, want % x", c.v, got, c.want)
		}
	}
}

func TestUvarintAgainstLibrary(t *testing.T) {
	for _, v := range numbers() {
		if got, want := Uvarint(v), binary.AppendUvarint(nil, v); !bytes.Equal(got, want) {
			t.Errorf("Uvarint(%d) = % x, want % x", v, got, want)
		}
	}
}

func TestUvarintEveryWidth(t *testing.T) {
	for n := 1; n <= 10; n++ {
		least := uint64(1) << (7 * (n - 1))
		if n == 1 {
			least = 0
		}
		greatest := uint64(math.MaxUint64)
		if n < 10 {
			greatest = 1<<(7*n) - 1
		}
		for _, v := range []uint64{least, greatest} {
			b := Uvarint(v)
			if len(b) != n {
				t.Errorf("Uvarint(%d) has %d bytes, want %d", v, len(b), n)
			}
			for i, x := range b {
				if (x >= 0x80) != (i < len(b)-1) {
					t.Errorf("Uvarint(%d) = % x: byte %d", v, b, i)
				}
			}
		}
	}
}

// P1.2

func TestReadUvarintGood(t *testing.T) {
	for _, c := range []struct {
		b []byte
		v uint64
		n int
	}{
		{[]byte{0x00}, 0, 1},
		{[]byte{0x00, 0x00}, 0, 1},
		{[]byte{0x01}, 1, 1},
		{[]byte{0x7f}, 0x7f, 1},
		{[]byte{0x7f, 0x80, 0x00}, 0x7f, 1},
		{[]byte{0x80, 0x01}, 0x80, 2},
		{[]byte{0xac, 0x02, 0xff}, 300, 2},
		{[]byte{0x80, 0x80, 0x01}, 0x4000, 3},
		{cat(rep(0xff, 8), []byte{0x7f}), 1<<63 - 1, 9},
		{cat(rep(0x80, 9), []byte{0x01}), 1 << 63, 10},
		{cat(rep(0xff, 9), []byte{0x01}), math.MaxUint64, 10},
		{cat(rep(0xff, 9), []byte{0x01}, rep(0xff, 9)), math.MaxUint64, 10},
	} {
		if v, n, e := ReadUvarint(c.b); v != c.v || n != c.n || e != api.OK {
			t.Errorf("ReadUvarint(% x) = %d, %d, %v, want %d, %d", c.b, v, n, e, c.v, c.n)
		}
	}
}

func TestReadUvarintWrong(t *testing.T) {
	for _, c := range []struct {
		b []byte
		e api.Errno
	}{
		{nil, api.ErrShort},
		{[]byte{}, api.ErrShort},
		{[]byte{0x80}, api.ErrShort},
		{[]byte{0xff}, api.ErrShort},
		{rep(0x80, 9), api.ErrShort},
		{rep(0xff, 9), api.ErrShort},
		{rep(0x80, 10), api.ErrForm},
		{rep(0xff, 10), api.ErrForm},
		{rep(0xff, 11), api.ErrForm},
		{rep(0x80, 1000), api.ErrForm},
		{cat(rep(0x80, 10), []byte{0x01}), api.ErrForm},
		{cat(rep(0x80, 9), []byte{0x81}), api.ErrForm},
		{cat(rep(0x80, 9), []byte{0x02}), api.ErrForm},
		{cat(rep(0xff, 9), []byte{0x02}), api.ErrForm},
		{cat(rep(0xff, 9), []byte{0x7f}), api.ErrForm},
		{cat(rep(0x80, 9), []byte{0x00}), api.ErrForm},
		{[]byte{0x80, 0x00}, api.ErrForm},
		{[]byte{0xff, 0x00}, api.ErrForm},
		{[]byte{0x80, 0x80, 0x00, 0x01}, api.ErrForm},
	} {
		if v, n, e := ReadUvarint(c.b); v != 0 || n != 0 || e != c.e {
			t.Errorf("ReadUvarint(% x) = %d, %d, %v, want 0, 0, %v", c.b, v, n, e, c.e)
		}
	}
}

// chapterUvarint is P1.2 clause by clause, in the chapter's order.
func chapterUvarint(b []byte) (uint64, int, api.Errno) {
	high := 0
	for high < len(b) && b[high] > 0x7f {
		high++
	}
	switch {
	case high == len(b) && len(b) < 10:
		return 0, 0, api.ErrShort
	case high >= 10, high == 9 && b[9] > 1, high > 0 && b[high] == 0:
		return 0, 0, api.ErrForm
	}
	v := uint64(0)
	for i := high; i >= 0; i-- {
		v = v*128 + uint64(b[i]%128)
	}
	return v, high + 1, api.OK
}

// everyRow calls f with every row of at most n bytes out of the kinds.
func everyRow(row, kinds []byte, n int, f func([]byte)) {
	f(row)
	if n == 0 {
		return
	}
	for _, x := range kinds {
		everyRow(append(row[:len(row):len(row)], x), kinds, n-1, f)
	}
}

func TestReadUvarintEveryShape(t *testing.T) {
	kinds := []byte{0x00, 0x01, 0x02, 0x7f, 0x80, 0x81, 0xff}
	for _, before := range [][]byte{nil, rep(0x80, 5), rep(0xff, 8), cat(rep(0x80, 4), rep(0xff, 4))} {
		everyRow(before, kinds, 4, func(b []byte) {
			v, n, e := ReadUvarint(b)
			if wv, wn, we := chapterUvarint(b); v != wv || n != wn || e != we {
				t.Errorf("ReadUvarint(% x) = %d, %d, %v, want %d, %d, %v", b, v, n, e, wv, wn, we)
			}
		})
	}
}

func TestReadUvarintEveryTenthByte(t *testing.T) {
	for x := range 256 {
		b := cat(rep(0x80, 9), []byte{byte(x)})
		v, n, e := ReadUvarint(b)
		if x == 1 {
			if v != 1<<63 || n != 10 || e != api.OK {
				t.Errorf("tenth byte %x: %d, %d, %v", x, v, n, e)
			}
		} else if v != 0 || n != 0 || e != api.ErrForm {
			t.Errorf("tenth byte %x: %d, %d, %v", x, v, n, e)
		}
	}
}

func TestReadUvarintCut(t *testing.T) {
	for _, w := range edges() {
		b := Uvarint(w)
		for i := range b {
			if v, n, e := ReadUvarint(b[:i]); v != 0 || n != 0 || e != api.ErrShort {
				t.Errorf("ReadUvarint(% x) = %d, %d, %v", b[:i], v, n, e)
			}
		}
	}
}

// P1.3

func TestZigZag(t *testing.T) {
	for _, c := range []struct {
		v int64
		u uint64
	}{
		{0, 0}, {-1, 1}, {1, 2}, {-2, 3}, {2, 4}, {-3, 5},
		{math.MaxInt32, 2 * math.MaxInt32}, {math.MinInt32, math.MaxUint32},
		{math.MaxInt64, math.MaxUint64 - 1}, {math.MinInt64, math.MaxUint64},
		{math.MaxInt64 - 1, math.MaxUint64 - 3}, {math.MinInt64 + 1, math.MaxUint64 - 2},
	} {
		if u := Zig(c.v); u != c.u {
			t.Errorf("Zig(%d) = %d, want %d", c.v, u, c.u)
		}
		if v := Zag(c.u); v != c.v {
			t.Errorf("Zag(%d) = %d, want %d", c.u, v, c.v)
		}
	}
}

func TestZigInOrder(t *testing.T) {
	for i := range int64(2000) {
		if u := Zig(i); u != uint64(2*i) {
			t.Errorf("Zig(%d) = %d", i, u)
		}
		if u := Zig(-i - 1); u != uint64(2*i+1) {
			t.Errorf("Zig(%d) = %d", -i-1, u)
		}
	}
}

func TestZagIsTheWayBack(t *testing.T) {
	for _, u := range numbers() {
		if got := Zig(Zag(u)); got != u {
			t.Errorf("Zig(Zag(%d)) = %d", u, got)
		}
		for _, v := range []int64{int64(u), -int64(u)} {
			if got := Zag(Zig(v)); got != v {
				t.Errorf("Zag(Zig(%d)) = %d", v, got)
			}
		}
	}
}

// P1.4

func TestBigForm(t *testing.T) {
	if b := Big(0x0102030405060708); !bytes.Equal(b, []byte{1, 2, 3, 4, 5, 6, 7, 8}) {
		t.Errorf("% x", b)
	}
	if b := Big(0); !bytes.Equal(b, rep(0, 8)) {
		t.Errorf("% x", b)
	}
	if b := Big(math.MaxUint64); !bytes.Equal(b, rep(0xff, 8)) {
		t.Errorf("% x", b)
	}
	for _, v := range numbers() {
		if got, want := Big(v), binary.BigEndian.AppendUint64(nil, v); !bytes.Equal(got, want) {
			t.Errorf("Big(%d) = % x, want % x", v, got, want)
		}
	}
}

func TestShortForm(t *testing.T) {
	if b := Short(0x01020304); !bytes.Equal(b, []byte{1, 2, 3, 4}) {
		t.Errorf("% x", b)
	}
	if b := Short(0); !bytes.Equal(b, rep(0, 4)) {
		t.Errorf("% x", b)
	}
	if b := Short(math.MaxUint32); !bytes.Equal(b, rep(0xff, 4)) {
		t.Errorf("% x", b)
	}
	for _, v := range numbers() {
		if got, want := Short(uint32(v)), binary.BigEndian.AppendUint32(nil, uint32(v)); !bytes.Equal(got, want) {
			t.Errorf("Short(%d) = % x, want % x", uint32(v), got, want)
		}
	}
}

func TestReadBigAndShortByLength(t *testing.T) {
	row := []byte{0x81, 0x92, 0xa3, 0xb4, 0xc5, 0xd6, 0xe7, 0xf8, 0x09, 0x1a, 0x2b}
	for n := range len(row) + 1 {
		big, bigErr := ReadBig(row[:n])
		if n < 8 && (big != 0 || bigErr != api.ErrShort) {
			t.Errorf("ReadBig of %d bytes: %x, %v", n, big, bigErr)
		}
		if n >= 8 && (big != 0x8192a3b4c5d6e7f8 || bigErr != api.OK) {
			t.Errorf("ReadBig of %d bytes: %x, %v", n, big, bigErr)
		}
		short, shortErr := ReadShort(row[:n])
		if n < 4 && (short != 0 || shortErr != api.ErrShort) {
			t.Errorf("ReadShort of %d bytes: %x, %v", n, short, shortErr)
		}
		if n >= 4 && (short != 0x8192a3b4 || shortErr != api.OK) {
			t.Errorf("ReadShort of %d bytes: %x, %v", n, short, shortErr)
		}
	}
}

func TestReadBigAndShortOfNothing(t *testing.T) {
	if v, e := ReadBig(nil); v != 0 || e != api.ErrShort {
		t.Error(v, e)
	}
	if v, e := ReadShort(nil); v != 0 || e != api.ErrShort {
		t.Error(v, e)
	}
}

// P1.5

func TestSumKnown(t *testing.T) {
	for _, c := range []struct {
		b    []byte
		want uint32
	}{
		{nil, 0},
		{[]byte{}, 0},
		{[]byte{0}, 0xd202ef8d},
		{[]byte("a"), 0xe8b7be43},
		{[]byte("123456789"), 0xcbf43926},
		{rep(0, 32), 0x190a55ad},
		{rep(0xff, 32), 0xff6cab0b},
	} {
		if got := Sum(c.b); got != c.want {
			t.Errorf("Sum(% x) = %08x, want %08x", c.b, got, c.want)
		}
	}
}

func TestSumAgainstLibrary(t *testing.T) {
	for a := range 256 {
		for b := range 256 {
			row := []byte{byte(a), byte(b)}
			if got, want := Sum(row), crc32.ChecksumIEEE(row); got != want {
				t.Fatalf("Sum(% x) = %08x, want %08x", row, got, want)
			}
		}
	}
	var row []byte
	for i, x := range spread(1500) {
		row = append(row, byte(x))
		if got, want := Sum(row), crc32.ChecksumIEEE(row); got != want {
			t.Fatalf("Sum of %d bytes = %08x, want %08x", i+1, got, want)
		}
	}
}

// P1.6

func TestWrittenIsRead(t *testing.T) {
	for _, v := range numbers() {
		for _, tail := range tails() {
			b := Uvarint(v)
			if got, n, e := ReadUvarint(cat(b, tail)); got != v || n != len(b) || e != api.OK {
				t.Errorf("Uvarint(%d) with % x behind: %d, %d, %v", v, tail, got, n, e)
			}
			if got, e := ReadBig(cat(Big(v), tail)); got != v || e != api.OK {
				t.Errorf("Big(%d) with % x behind: %d, %v", v, tail, got, e)
			}
			if got, e := ReadShort(cat(Short(uint32(v)), tail)); got != uint32(v) || e != api.OK {
				t.Errorf("Short(%d) with % x behind: %d, %v", uint32(v), tail, got, e)
			}
		}
	}
}

func TestOneOtherByteIsAnotherSum(t *testing.T) {
	for _, n := range []int{1, 2, 3, 4, 5, 8, 9, 64, 257} {
		row := make([]byte, n)
		for i, x := range spread(n) {
			row[i] = byte(x)
		}
		sum := Sum(row)
		for i := range row {
			for d := 1; d < 256; d++ {
				row[i] ^= byte(d)
				if Sum(row) == sum {
					t.Fatalf("%d bytes: byte %d changed by %x keeps the sum", n, i, d)
				}
				row[i] ^= byte(d)
			}
		}
	}
}

// P1.6, W6, W7

// readers are the calls that take bytes, each told as one number.
func readers() map[string]func([]byte) uint64 {
	return map[string]func([]byte) uint64{
		"ReadUvarint": func(b []byte) uint64 { v, n, e := ReadUvarint(b); return v*100 + uint64(n)*30 + uint64(e) },
		"ReadBig":     func(b []byte) uint64 { v, e := ReadBig(b); return v*30 + uint64(e) },
		"ReadShort":   func(b []byte) uint64 { v, e := ReadShort(b); return uint64(v)*30 + uint64(e) },
		"Sum":         func(b []byte) uint64 { return uint64(Sum(b)) },
	}
}

// rows are bytes that the readers take or refuse.
func rows() [][]byte {
	return [][]byte{
		{}, {0x80}, {0x80, 0x00}, {1, 2, 3}, {1, 2, 3, 4, 5, 6, 7}, {0xac, 0x02, 0xff, 1, 2, 3, 4, 5, 6},
		rep(0xff, 11), cat(rep(0xff, 9), []byte{1, 2}),
	}
}

func TestHandedInIsNotChanged(t *testing.T) {
	for name, read := range readers() {
		for _, row := range rows() {
			room := cat(row, rep(0xa5, 16))
			read(room[:len(row)])
			if !bytes.Equal(room, cat(row, rep(0xa5, 16))) {
				t.Errorf("%s(% x) leaves % x", name, row, room)
			}
		}
	}
}

func TestHandedInIsNotKept(t *testing.T) {
	for name, read := range readers() {
		for _, row := range rows() {
			given := bytes.Clone(row)
			want := read(given)
			for i := range given {
				given[i] ^= 0xff
			}
			read(given)
			if got := read(bytes.Clone(row)); got != want {
				t.Errorf("%s(% x) = %d, then %d", name, row, want, got)
			}
		}
	}
}

func TestSpareRoomIsNotRead(t *testing.T) {
	for name, read := range readers() {
		for _, row := range rows() {
			want := read(bytes.Clone(row))
			for _, x := range []byte{0x00, 0x01, 0xff} {
				room := cat(row, rep(x, 16))
				if got := read(room[:len(row)]); got != want {
					t.Errorf("%s(% x) with %x in its spare room = %d, want %d", name, row, x, got, want)
				}
			}
		}
	}
}

// writers are the calls that answer bytes.
func writers() map[string]func(uint64) []byte {
	return map[string]func(uint64) []byte{
		"Uvarint": Uvarint,
		"Big":     Big,
		"Short":   func(v uint64) []byte { return Short(uint32(v)) },
	}
}

// spoil overwrites a row and its spare room.
func spoil(b []byte) {
	b = b[:cap(b)]
	for i := range b {
		b[i] = 0x5a
	}
}

func TestAnswerIsNewMemory(t *testing.T) {
	for name, write := range writers() {
		for _, v := range edges() {
			first, second := write(v), write(v)
			want := bytes.Clone(second)
			spoil(first)
			if !bytes.Equal(second, want) {
				t.Errorf("%s(%d): two answers share memory", name, v)
			}
			if third := write(v); !bytes.Equal(third, want) {
				t.Errorf("%s(%d) = % x once an answer was overwritten", name, v, third)
			}
		}
	}
}

func TestAnswersShareNoSpareRoom(t *testing.T) {
	for name, write := range writers() {
		for _, v := range edges() {
			first, second := write(v), write(v)
			firstRoom, secondRoom := first[:cap(first)], second[:cap(second)]
			want := bytes.Clone(secondRoom)
			for i := range firstRoom {
				firstRoom[i] ^= 0xff
			}
			if !bytes.Equal(secondRoom, want) {
				t.Errorf("%s(%d): two answers share room", name, v)
			}
		}
	}
}

func TestAnswerStays(t *testing.T) {
	for name, write := range writers() {
		var answers, copies [][]byte
		for _, v := range numbers() {
			b := write(v)
			answers, copies = append(answers, b), append(copies, bytes.Clone(b))
		}
		for i := range answers {
			if !bytes.Equal(answers[i], copies[i]) {
				t.Errorf("%s: answer %d became % x, was % x", name, i, answers[i], copies[i])
			}
		}
	}
}

// W1: whatever bytes come, every call ends, and what is read is what would be
// written for it.
func FuzzAnyBytes(f *testing.F) {
	for _, row := range rows() {
		f.Add(row)
	}
	f.Fuzz(func(t *testing.T, b []byte) {
		v, n, e := ReadUvarint(b)
		if wv, wn, we := chapterUvarint(b); v != wv || n != wn || e != we {
			t.Errorf("ReadUvarint(% x) = %d, %d, %v, want %d, %d, %v", b, v, n, e, wv, wn, we)
		}
		if e == api.OK && !bytes.Equal(Uvarint(v), b[:n]) {
			t.Errorf("Uvarint(%d) is not % x", v, b[:n])
		}
		if v, e := ReadBig(b); e == api.OK && !bytes.Equal(Big(v), b[:8]) {
			t.Errorf("Big(%d) is not % x", v, b[:8])
		}
		if v, e := ReadShort(b); e == api.OK && !bytes.Equal(Short(v), b[:4]) {
			t.Errorf("Short(%d) is not % x", v, b[:4])
		}
		if got, want := Sum(b), crc32.ChecksumIEEE(b); got != want {
			t.Errorf("Sum(% x) = %08x, want %08x", b, got, want)
		}
	})
}
