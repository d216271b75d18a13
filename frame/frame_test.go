package frame

import (
	"bytes"
	"encoding/binary"
	"fmt"
	"hash/crc32"
	"math"
	"slices"
	"sync"
	"testing"

	"scrivener/api"
)

// row is n bytes of all kinds, the same at each run.
func row(n int) []byte {
	out := make([]byte, n)
	x := uint64(n) + 1
	for i := range out {
		x = x*6364136223846793005 + 1442695040888963407
		out[i] = byte(x >> 56)
	}
	return out
}

func rep(x byte, n int) []byte { return bytes.Repeat([]byte{x}, n) }

func cat(parts ...[]byte) []byte { return bytes.Join(parts, nil) }

// number is a number in four bytes, by the library.
func number(v uint32) []byte { return binary.BigEndian.AppendUint32(nil, v) }

// summed is bytes with their Sum behind, by the library.
func summed(b []byte) []byte { return cat(b, number(crc32.ChecksumIEEE(b))) }

// headFor is a head that tells so many bytes, whatever their number.
func headFor(n uint32) []byte { return summed(number(n)) }

// recordFor is the record of p by the words of the chapter, however long p is.
func recordFor(p []byte) []byte { return summed(cat(headFor(uint32(len(p))), p)) }

// flipped is bytes of which one is another one.
func flipped(b []byte, at int, by byte) []byte {
	out := bytes.Clone(b)
	out[at] ^= by
	return out
}

func encoded(t testing.TB, p []byte) []byte {
	t.Helper()
	b, e := Encode(p)
	if e != api.OK {
		t.Fatalf("Encode of %d bytes: %v", len(p), e)
	}
	return b
}

// held are bytes of all kinds that a record may hold.
func held() [][]byte {
	out := [][]byte{nil, {}, {0}, {0xff}, []byte("a"), []byte("123456789"), rep(0, 12), rep(0xff, 300), recordFor(nil), recordFor([]byte("within"))}
	for n := range 70 {
		out = append(out, row(n))
	}
	for _, n := range []int{127, 128, 255, 256, 257, 4095, 4096, 65535, 65536, 65537} {
		out = append(out, row(n))
	}
	return out
}

// great are the greatest that a record may hold.
func great() [][]byte {
	return [][]byte{row(api.MaxFrame - 1), row(api.MaxFrame), rep(0, api.MaxFrame), rep(0xff, api.MaxFrame)}
}

// tails are what may stand behind a record.
func tails() [][]byte {
	return [][]byte{nil, {0}, {0xff}, {1, 2, 3}, rep(0, 8), rep(0xff, 40), recordFor(nil), recordFor([]byte("next")), headFor(api.MaxFrame + 1)}
}

// short is bytes for a message, cut where they are many.
func short(b []byte) string {
	if len(b) <= 40 {
		return fmt.Sprintf("% x", b)
	}
	return fmt.Sprintf("% x .. (%d bytes)", b[:40], len(b))
}

// takes fails unless Decode answers p and n.
func takes(t *testing.T, b, p []byte, n int) {
	t.Helper()
	if got, m, e := Decode(b); !bytes.Equal(got, p) || m != n || e != api.OK {
		t.Errorf("Decode(%s) = %s, %d, %v, want %s, %d", short(b), short(got), m, e, short(p), n)
	}
}

// refuses fails unless Decode answers this error and nothing beside it.
func refuses(t *testing.T, b []byte, want api.Errno) {
	t.Helper()
	if got, n, e := Decode(b); len(got) != 0 || n != 0 || e != want {
		t.Errorf("Decode(%s) = %s, %d, %v, want %v alone", short(b), short(got), n, e, want)
	}
}

// scans fails unless Scan answers just these.
func scans(t *testing.T, b []byte, want [][]byte, n int, e api.Errno) {
	t.Helper()
	got, m, f := Scan(b)
	if !slices.EqualFunc(got, want, bytes.Equal) || m != n || f != e {
		t.Errorf("Scan(%s) = %d records, %d, %v, want %d, %d, %v", short(b), len(got), m, f, len(want), n, e)
	}
}

// P4.1

func TestEncodeKnown(t *testing.T) {
	for _, c := range []struct {
		p, want []byte
	}{
		{nil, []byte{0, 0, 0, 0, 0x21, 0x44, 0xdf, 0x1c, 0x18, 0x9e, 0xb7, 0xb1}},
		{[]byte{}, []byte{0, 0, 0, 0, 0x21, 0x44, 0xdf, 0x1c, 0x18, 0x9e, 0xb7, 0xb1}},
		{[]byte("a"), []byte{0, 0, 0, 1, 0x56, 0x43, 0xef, 0x8a, 'a', 0x4a, 0xc0, 0xbc, 0x21}},
		{[]byte("123456789"), []byte{0, 0, 0, 9, 0x58, 0x98, 0x67, 0xb8, '1', '2', '3', '4', '5', '6', '7', '8', '9', 0x97, 0xd0, 0x7b, 0xfd}},
	} {
		if got := encoded(t, c.p); !bytes.Equal(got, c.want) {
			t.Errorf("Encode(%s) = % x, want % x", short(c.p), got, c.want)
		}
	}
}

func TestEncodeForm(t *testing.T) {
	for _, p := range append(held(), great()...) {
		got := encoded(t, p)
		if len(got) != len(p)+12 || !bytes.Equal(got, recordFor(p)) {
			t.Errorf("Encode(%s) = %s, want %s", short(p), short(got), short(recordFor(p)))
		}
	}
}

func TestEncodeOfNothing(t *testing.T) {
	if a, b := encoded(t, nil), encoded(t, []byte{}); len(a) != 12 || !bytes.Equal(a, b) {
		t.Errorf("% x, % x", a, b)
	}
}

func TestEncodeLong(t *testing.T) {
	for _, n := range []int{api.MaxFrame + 1, api.MaxFrame + 2, 2 * api.MaxFrame, 1<<24 + 1} {
		if b, e := Encode(make([]byte, n)); len(b) != 0 || e != api.ErrLong {
			t.Errorf("Encode of %d bytes: %d bytes, %v", n, len(b), e)
		}
	}
}

func TestEncodeLongWhateverTheSpareRoom(t *testing.T) {
	room := make([]byte, api.MaxFrame+1)
	if b, e := Encode(room[:api.MaxFrame]); len(b) != api.MaxFrame+12 || e != api.OK {
		t.Errorf("%d bytes, %v", len(b), e)
	}
}

// P4.2

func TestDecodeGood(t *testing.T) {
	for _, p := range append(held(), great()...) {
		takes(t, recordFor(p), p, len(p)+12)
	}
}

func TestDecodeKnown(t *testing.T) {
	takes(t, []byte{0, 0, 0, 0, 0x21, 0x44, 0xdf, 0x1c, 0x18, 0x9e, 0xb7, 0xb1}, nil, 12)
	takes(t, []byte{0, 0, 0, 1, 0x56, 0x43, 0xef, 0x8a, 'a', 0x4a, 0xc0, 0xbc, 0x21}, []byte("a"), 13)
}

func TestDecodeOfNothing(t *testing.T) {
	refuses(t, nil, api.ErrShort)
	refuses(t, []byte{}, api.ErrShort)
}

// Fewer than eight bytes stand ahead of all: no head is looked at.
func TestDecodeFewerThanEight(t *testing.T) {
	for _, b := range [][]byte{
		recordFor(nil), recordFor(row(9)), rep(0, 8), rep(0xff, 8),
		headFor(0), headFor(api.MaxFrame), headFor(api.MaxFrame + 1), headFor(math.MaxUint32),
	} {
		for n := range 8 {
			refuses(t, b[:n], api.ErrShort)
		}
	}
}

func TestDecodeEight(t *testing.T) {
	refuses(t, headFor(0), api.ErrShort)
	refuses(t, headFor(1), api.ErrShort)
	refuses(t, headFor(api.MaxFrame), api.ErrShort)
	refuses(t, headFor(api.MaxFrame+1), api.ErrLong)
	refuses(t, rep(0, 8), api.ErrSum)
	// The Sum of four bytes ff is ff four times: this head is right.
	refuses(t, rep(0xff, 8), api.ErrLong)
}

// A head whose Sum is not right stands ahead of what the head tells, of what is
// missing and of the last Sum.
func TestDecodeHeadSumIsAhead(t *testing.T) {
	for _, n := range []uint32{0, 1, 5, api.MaxFrame, api.MaxFrame + 1, 1 << 31, math.MaxUint32} {
		for at := range 4 {
			for by := 1; by < 256; by++ {
				head := flipped(headFor(n), 4+at, byte(by))
				refuses(t, head, api.ErrSum)
				refuses(t, cat(head, row(5)), api.ErrSum)
				refuses(t, summed(cat(head, row(5))), api.ErrSum)
			}
		}
	}
}

// The Sum of the head is that of its first four bytes alone, the highest first.
func TestDecodeHeadSumOfOtherThings(t *testing.T) {
	turned := slices.Clone(headFor(5))
	slices.Reverse(turned[4:])
	for _, head := range [][]byte{
		turned,
		cat(number(5), number(0)),
		cat(number(5), number(^crc32.ChecksumIEEE(number(5)))),
		cat(number(5), number(crc32.ChecksumIEEE(row(5)))),
		cat(number(5), number(crc32.ChecksumIEEE(cat(number(5), row(5))))),
		cat(number(5), number(crc32.ChecksumIEEE([]byte{5, 0, 0, 0}))),
		cat(number(5), number(crc32.Checksum(number(5), crc32.MakeTable(crc32.Castagnoli)))),
	} {
		refuses(t, summed(cat(head, row(5))), api.ErrSum)
	}
}

// A head that tells too much stands ahead of what is missing and of the last
// Sum: also where all is there and right.
func TestDecodeLongIsAhead(t *testing.T) {
	for _, n := range []uint32{
		api.MaxFrame + 1, api.MaxFrame + 2, 2 * api.MaxFrame, 1<<31 - 1, 1 << 31,
		math.MaxUint32 - 12, math.MaxUint32 - 11, math.MaxUint32 - 8, math.MaxUint32 - 7, math.MaxUint32 - 3, math.MaxUint32,
	} {
		refuses(t, headFor(n), api.ErrLong)
		for _, behind := range [][]byte{{0}, rep(0, 4), row(11), row(100)} {
			refuses(t, cat(headFor(n), behind), api.ErrLong)
			refuses(t, summed(cat(headFor(n), behind)), api.ErrLong)
		}
	}
	whole := recordFor(row(api.MaxFrame + 1))
	refuses(t, whole, api.ErrLong)
	refuses(t, flipped(whole, len(whole)-1, 1), api.ErrLong)
	refuses(t, whole[:len(whole)-1], api.ErrLong)
}

// What is missing stands ahead of the last Sum: of a record that is not all
// there nothing behind the head is looked at.
func TestDecodeCutIsShort(t *testing.T) {
	for _, p := range held() {
		b := recordFor(p)
		bad := cat(headFor(uint32(len(p))), rep(0x5a, len(p)+4))
		for n := range min(len(b), 400) {
			refuses(t, b[:n], api.ErrShort)
			refuses(t, bad[:n], api.ErrShort)
		}
		for n := max(len(b)-20, 0); n < len(b); n++ {
			refuses(t, b[:n], api.ErrShort)
			refuses(t, bad[:n], api.ErrShort)
		}
	}
}

func TestDecodeGreatCutIsShort(t *testing.T) {
	b := recordFor(row(api.MaxFrame))
	for _, n := range []int{8, 9, 12, api.MaxFrame, api.MaxFrame + 7, api.MaxFrame + 8, api.MaxFrame + 9, api.MaxFrame + 11} {
		refuses(t, b[:n], api.ErrShort)
	}
}

// A cut record stays short where the missing byte stands in the spare room.
func TestDecodeSpareRoomIsNotRead(t *testing.T) {
	for _, p := range held() {
		b := recordFor(p)
		refuses(t, b[:len(b)-1], api.ErrShort)
		takes(t, cat(b, b)[:len(b)], p, len(b))
	}
}

func TestDecodeLastSum(t *testing.T) {
	for _, p := range append(held(), row(api.MaxFrame)) {
		b := recordFor(p)
		for at := len(b) - 4; at < len(b); at++ {
			for _, by := range []byte{1, 0x10, 0x80, 0xff} {
				refuses(t, flipped(b, at, by), api.ErrSum)
			}
		}
	}
}

// The last Sum is that of head and p, the highest first.
func TestDecodeLastSumOfOtherThings(t *testing.T) {
	p := row(5)
	b := cat(headFor(5), p)
	turned := summed(b)
	slices.Reverse(turned[len(b):])
	refuses(t, turned, api.ErrSum)
	for _, sum := range []uint32{
		0, math.MaxUint32, ^crc32.ChecksumIEEE(b), crc32.ChecksumIEEE(p), crc32.ChecksumIEEE(b[4:]), crc32.ChecksumIEEE(b[:8]),
		crc32.ChecksumIEEE(cat(number(5), p)), crc32.ChecksumIEEE(cat(b, rep(0, 4))), crc32.Checksum(b, crc32.MakeTable(crc32.Castagnoli)),
	} {
		refuses(t, cat(b, number(sum)), api.ErrSum)
		// A right one behind the wrong one is not its Sum.
		refuses(t, cat(b, number(sum), number(crc32.ChecksumIEEE(b))), api.ErrSum)
	}
}

// chapterDecode is P4.2 clause by clause, in the chapter's order.
func chapterDecode(b []byte) ([]byte, int, api.Errno) {
	if len(b) < 8 {
		return nil, 0, api.ErrShort
	}
	if !bytes.Equal(b[:8], summed(b[:4])) {
		return nil, 0, api.ErrSum
	}
	n := int64(b[0])<<24 + int64(b[1])<<16 + int64(b[2])<<8 + int64(b[3])
	if n > 524288 {
		return nil, 0, api.ErrLong
	}
	whole := 8 + n + 4
	if int64(len(b)) < whole {
		return nil, 0, api.ErrShort
	}
	if !bytes.Equal(b[:whole], summed(b[:whole-4])) {
		return nil, 0, api.ErrSum
	}
	return b[8 : whole-4], int(whole), api.OK
}

// chapterScan is P4.3 by the words of the chapter.
func chapterScan(b []byte) (all [][]byte, good int, e api.Errno) {
	for rest := b; len(rest) > 0; rest = b[good:] {
		p, n, e := chapterDecode(rest)
		if e != api.OK {
			return all, good, e
		}
		all, good = append(all, p), good+n
	}
	return all, good, api.OK
}

// asTheChapter holds Decode and Scan against the chapter.
func asTheChapter(t *testing.T, b []byte) {
	t.Helper()
	if p, n, e := chapterDecode(b); e == api.OK {
		takes(t, b, p, n)
	} else {
		refuses(t, b, e)
	}
	all, good, e := chapterScan(b)
	scans(t, b, all, good, e)
}

// pieces are what rows of all shapes are made of.
func pieces() [][]byte {
	return [][]byte{
		recordFor(nil), recordFor([]byte("a")), recordFor(row(40)),
		recordFor(row(9))[:20], flipped(recordFor(row(9)), 12, 4), flipped(recordFor(row(3)), 14, 4), flipped(recordFor(row(9)), 5, 4),
		headFor(api.MaxFrame + 1), headFor(api.MaxFrame), headFor(0), {0}, {1, 2, 3}, rep(0, 8), row(7),
	}
}

func TestEveryRowOfPieces(t *testing.T) {
	asTheChapter(t, nil)
	for _, a := range pieces() {
		asTheChapter(t, a)
		for _, b := range pieces() {
			asTheChapter(t, cat(a, b))
			for _, c := range pieces() {
				asTheChapter(t, cat(a, b, c))
			}
		}
	}
}

// P4.3

func TestScanOfNothing(t *testing.T) {
	scans(t, nil, nil, 0, api.OK)
	scans(t, []byte{}, nil, 0, api.OK)
}

func TestScanExample(t *testing.T) {
	b := recordFor([]byte("one"))
	scans(t, cat(b, []byte{1, 2, 3}), [][]byte{[]byte("one")}, len(b), api.ErrShort)
}

func TestScanGood(t *testing.T) {
	var b []byte
	var all [][]byte
	for _, p := range held() {
		b, all = append(b, recordFor(p)...), append(all, p)
		scans(t, b, all, len(b), api.OK)
	}
}

func TestScanManyOfNothing(t *testing.T) {
	const n = 20000
	b := bytes.Repeat(recordFor(nil), n)
	scans(t, b, make([][]byte, n), 12*n, api.OK)
	scans(t, b[:len(b)-1], make([][]byte, n-1), 12*(n-1), api.ErrShort)
}

func TestScanGreat(t *testing.T) {
	all := [][]byte{row(api.MaxFrame), nil, rep(7, api.MaxFrame)}
	b := cat(recordFor(all[0]), recordFor(nil), recordFor(all[2]))
	scans(t, b, all, len(b), api.OK)
	scans(t, b[:len(b)-1], all[:2], api.MaxFrame+24, api.ErrShort)
	scans(t, cat(b, recordFor(row(api.MaxFrame+1))), all, len(b), api.ErrLong)
}

// faults are what no record begins with, and the error of each.
func faults() []struct {
	b []byte
	e api.Errno
} {
	r := recordFor(row(9))
	return []struct {
		b []byte
		e api.Errno
	}{
		{[]byte{0}, api.ErrShort},
		{row(7), api.ErrShort},
		{headFor(0), api.ErrShort},
		{headFor(api.MaxFrame), api.ErrShort},
		{r[:len(r)-1], api.ErrShort},
		{rep(0, 8), api.ErrSum},
		{flipped(r, 0, 1), api.ErrSum},
		{flipped(r, 4, 1), api.ErrSum},
		{flipped(r, 9, 1), api.ErrSum},
		{flipped(r, len(r)-1, 1), api.ErrSum},
		{headFor(api.MaxFrame + 1), api.ErrLong},
		{headFor(math.MaxUint32), api.ErrLong},
	}
}

func TestScanTellsTheGoodBesideTheError(t *testing.T) {
	all := [][]byte{[]byte("a"), nil, row(30), []byte("last")}
	for n := range len(all) + 1 {
		var b []byte
		for _, p := range all[:n] {
			b = append(b, recordFor(p)...)
		}
		for _, f := range faults() {
			scans(t, cat(b, f.b), all[:n], len(b), f.e)
		}
	}
}

// What stands behind the first that errs is not told, be it good or another error.
func TestScanEndsAtTheFirstError(t *testing.T) {
	first := recordFor([]byte("a"))
	for _, f := range faults() {
		if f.e == api.ErrShort {
			continue
		}
		scans(t, cat(first, f.b, recordFor([]byte("b"))), [][]byte{[]byte("a")}, len(first), f.e)
		for _, g := range faults() {
			scans(t, cat(first, f.b, g.b), [][]byte{[]byte("a")}, len(first), f.e)
		}
	}
}

// P4.4

func TestEncodedIsReadWhateverStandsBehind(t *testing.T) {
	for _, p := range append(held(), great()...) {
		b := encoded(t, p)
		for _, tail := range tails() {
			takes(t, cat(b, tail), p, len(b))
		}
	}
}

func TestOneOtherByteIsRefused(t *testing.T) {
	for _, p := range [][]byte{nil, {0}, []byte("a"), row(2), row(3), row(31), rep(0, 40), rep(0xff, 64), row(257)} {
		b := encoded(t, p)
		for at := range b {
			for by := 1; by < 256; by++ {
				for _, tail := range [][]byte{nil, recordFor(nil)} {
					refuses(t, cat(flipped(b, at, byte(by)), tail), api.ErrSum)
				}
			}
		}
	}
}

func TestOneOtherByteOfAGreatOneIsRefused(t *testing.T) {
	b := encoded(t, row(api.MaxFrame))
	for at := 0; at < len(b); at += 40009 {
		refuses(t, flipped(b, at, byte(1+at%255)), api.ErrSum)
	}
	for at := range 12 {
		refuses(t, flipped(b, at, 0x20), api.ErrSum)
		refuses(t, flipped(b, len(b)-1-at, 0x20), api.ErrSum)
	}
}

func TestScanOfOneOtherByte(t *testing.T) {
	all := [][]byte{[]byte("one"), nil, row(20), []byte("four")}
	var b []byte
	var ends []int
	for _, p := range all {
		b = append(b, encoded(t, p)...)
		ends = append(ends, len(b))
	}
	for at := range b {
		n, _ := slices.BinarySearch(ends, at+1)
		good := 0
		if n > 0 {
			good = ends[n-1]
		}
		for by := 1; by < 256; by++ {
			scans(t, flipped(b, at, byte(by)), all[:n], good, api.ErrSum)
		}
	}
}

func TestScanCutAtAnyPlace(t *testing.T) {
	all := [][]byte{nil, []byte("a"), row(50), nil, row(9), recordFor(row(5)), row(300)}
	var b []byte
	whole := map[int]int{0: 0} // how many records end there
	for i, p := range all {
		b = append(b, encoded(t, p)...)
		whole[len(b)] = i + 1
	}
	n, good := 0, 0
	for at := range len(b) + 1 {
		e := api.ErrShort
		if m, ok := whole[at]; ok {
			n, good, e = m, at, api.OK
		}
		scans(t, b[:at], all[:n], good, e)
		scans(t, bytes.Clone(b[:at]), all[:n], good, e)
	}
}

// P4.5, W6, W7

// calls are the three, each told as its answer's lists; the numbers stand in one of them.
func calls() map[string]func([]byte) [][]byte {
	return map[string]func([]byte) [][]byte{
		"Encode": func(b []byte) [][]byte {
			out, e := Encode(b)
			return [][]byte{[]byte(fmt.Sprint(e)), out}
		},
		"Decode": func(b []byte) [][]byte {
			out, n, e := Decode(b)
			return [][]byte{[]byte(fmt.Sprint(n, e)), out}
		},
		"Scan": func(b []byte) [][]byte {
			out, n, e := Scan(b)
			return append([][]byte{[]byte(fmt.Sprint(n, e))}, out...)
		},
	}
}

// rows are bytes that the calls take or refuse.
func rows() [][]byte {
	three := cat(recordFor([]byte("a")), recordFor(row(100)), recordFor(nil))
	out := [][]byte{{}, row(7), row(100), three, three[:len(three)-1], cat(three, []byte{1, 2, 3}), recordFor(row(api.MaxFrame)), row(api.MaxFrame + 1)}
	for _, f := range faults() {
		out = append(out, f.b, cat(three, f.b))
	}
	return out
}

func same(a, b [][]byte) bool { return slices.EqualFunc(a, b, bytes.Equal) }

func copied(lists [][]byte) [][]byte {
	out := make([][]byte, len(lists))
	for i, l := range lists {
		out[i] = bytes.Clone(l)
	}
	return out
}

// turn makes every byte of a list and of its spare room another one.
func turn(b []byte) {
	b = b[:cap(b)]
	for i := range b {
		b[i] ^= 0xff
	}
}

func TestHandedInIsNotChanged(t *testing.T) {
	for name, call := range calls() {
		for _, b := range rows() {
			room := cat(b, rep(0xa5, 32))
			call(room[:len(b)])
			if !bytes.Equal(room, cat(b, rep(0xa5, 32))) {
				t.Errorf("%s(%s) changed it", name, short(b))
			}
		}
	}
}

func TestHandedInIsNotKept(t *testing.T) {
	for name, call := range calls() {
		for _, b := range rows() {
			given := cat(b, rep(0xa5, 32))[:len(b)]
			got := call(given)
			want := copied(got)
			turn(given)
			if !same(got, want) {
				t.Errorf("%s(%s): the answer shares memory with it", name, short(b))
			}
			if again := call(bytes.Clone(b)); !same(again, want) {
				t.Errorf("%s(%s): another answer at the second time", name, short(b))
			}
		}
	}
}

func TestSpareRoomIsNotSeen(t *testing.T) {
	for name, call := range calls() {
		for _, b := range rows() {
			want := call(slices.Clip(bytes.Clone(b)))
			for _, spare := range [][]byte{rep(0, 20), rep(0xff, 20), recordFor(nil)} {
				if got := call(cat(b, spare)[:len(b)]); !same(got, want) {
					t.Errorf("%s(%s) hangs on its spare room", name, short(b))
				}
			}
		}
	}
}

// The lists of an answer, spare room too, share nothing with what was handed
// in, with each other, and with a second answer.
func TestAnswersAreNewMemory(t *testing.T) {
	for name, call := range calls() {
		for _, b := range rows() {
			room := cat(b, rep(0xa5, 32))
			first, second := call(room[:len(b)]), call(room[:len(b)])
			lists := slices.Concat([][]byte{room}, first, second)
			for i := range lists {
				lists[i] = lists[i][:cap(lists[i])]
			}
			want := copied(lists)
			for i := range lists {
				turn(lists[i])
				turn(want[i][:len(want[i]):len(want[i])])
				if !same(lists, want) {
					t.Fatalf("%s(%s): list %d shares memory with another one", name, short(b), i)
				}
			}
		}
	}
}

// The list of lists that Scan answers is new as well.
func TestScanListIsNewMemory(t *testing.T) {
	b := cat(recordFor([]byte("a")), recordFor([]byte("b")), recordFor([]byte("c")))
	first, _, _ := Scan(b)
	second, _, _ := Scan(b)
	clear(first[:cap(first)])
	if !same(second, [][]byte{[]byte("a"), []byte("b"), []byte("c")}) {
		t.Errorf("%q", second)
	}
	scans(t, b, second, len(b), api.OK)
}

func TestAnswersStay(t *testing.T) {
	for name, call := range calls() {
		var got, want [][][]byte
		for range 2 {
			for _, b := range rows() {
				answer := call(b)
				got, want = append(got, answer), append(want, copied(answer))
			}
		}
		for i := range got {
			if !same(got[i], want[i]) {
				t.Errorf("%s: answer %d became another one", name, i)
			}
		}
	}
}

// W2: calls side by side answer as they do alone.
func TestSideBySide(t *testing.T) {
	var group sync.WaitGroup
	for g := range 8 {
		group.Go(func() {
			for n := range 100 {
				p := row(100*g + n)
				b, _ := Encode(p)
				all, m, e := Scan(cat(b, b))
				if !same(all, [][]byte{p, p}) || m != 2*len(b) || e != api.OK {
					t.Errorf("%d bytes: %d records, %d, %v", len(p), len(all), m, e)
				}
			}
		})
	}
	group.Wait()
}

// W1: whatever bytes come, every call ends and answers what the chapter says.
func FuzzAnyBytes(f *testing.F) {
	for _, b := range rows() {
		if len(b) < 1000 {
			f.Add(b)
		}
	}
	f.Fuzz(func(t *testing.T, b []byte) {
		asTheChapter(t, b)
		// Any bytes behind a head that is right reach what a fuzzer hardly finds.
		asTheChapter(t, cat(headFor(uint32(len(b))), b))
		asTheChapter(t, cat(headFor(uint32(len(b)/2)), b))
		if len(b) > 4 {
			asTheChapter(t, cat(summed(b[:4]), b[4:]))
		}
		record := encoded(t, b)
		takes(t, cat(record, b), b, len(b)+12)
		asTheChapter(t, cat(record, b))
	})
}
