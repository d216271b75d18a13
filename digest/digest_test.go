package digest

import (
	"bytes"
	"crypto/sha256"
	"encoding/hex"
	"strings"
	"sync"
	"testing"

	"scrivener/api"
)

// row is n bytes of all kinds, the same at each run.
func row(n int) []byte {
	out := make([]byte, n)
	x := uint32(n)
	for i := range out {
		x = x*1664525 + 1013904223
		out[i] = byte(x >> 24)
	}
	return out
}

func rep(x byte, n int) []byte { return bytes.Repeat([]byte{x}, n) }

func cat(parts ...[]byte) []byte { return bytes.Join(parts, nil) }

func library(parts ...[]byte) api.Hash { return sha256.Sum256(cat(parts...)) }

// lengths are those up to several blocks, each about which a block or the
// place for the count ends among them, and some far beyond.
func lengths() []int {
	var out []int
	for n := range 400 {
		out = append(out, n)
	}
	for _, n := range []int{1 << 10, 1 << 16, 1 << 20} {
		out = append(out, n-9, n-8, n-1, n, n+1)
	}
	return out
}

// hashes are digests of all kinds: of noughts alone, of ones alone, others.
func hashes() []api.Hash {
	out := []api.Hash{{}, api.Hash(rep(0xff, 32)), api.Hash(rep(0x0f, 32)), api.Hash(rep(0xf0, 32)), {31: 1}, {0: 1}}
	for i := range 64 {
		out = append(out, api.Hash(row(32 + i)[i:]))
	}
	return out
}

// P2.1

func TestSumKnown(t *testing.T) {
	for _, c := range []struct {
		b    []byte
		want string
	}{
		{nil, "e3b0c44298fc1c149afbf4c8996fb92427ae41e4649b934ca495991b7852b855"},
		{[]byte{}, "e3b0c44298fc1c149afbf4c8996fb92427ae41e4649b934ca495991b7852b855"},
		{[]byte("abc"), "ba7816bf8f01cfea414140de5dae2223b00361a396177a9cb410ff61f20015ad"},
		{[]byte{0xbd}, "68325720aabd7c82f30f554b313d0570c95accbb7dc4b5aae11204c08ffe732b"},
		{[]byte("abcdbcdecdefdefgefghfghighijhijkijkljklmklmnlmnomnopnopq"), "248d6a61d20638b8e5c026930c3e6039a33ce45964ff2167f6ecedd419db06c1"},
		{rep(0, 55), "02779466cdec163811d078815c633f21901413081449002f24aa3e80f0b88ef7"},
		{rep(0, 56), "d4817aa5497628e7c77e6b606107042bbba3130888c5f47a375e6179be789fbb"},
		{rep(0, 64), "f5a5fd42d16a20302798ef6ed309979b43003d2320d9f0e8ea9831a92759fb4b"},
		{rep('a', 1000000), "cdc76e5c9914fb9281a1c7e284d73e67f1809a48a497200e046d39ccc7112cd0"},
	} {
		if h := Sum(c.b); hex.EncodeToString(h[:]) != c.want {
			t.Errorf("Sum of %d bytes = %x, want %s", len(c.b), h, c.want)
		}
	}
}

func TestSumAtEveryLength(t *testing.T) {
	for _, n := range lengths() {
		for _, b := range [][]byte{row(n), rep(0, n), rep(0xff, n), rep(0x80, n)} {
			if got, want := Sum(b), library(b); got != want {
				t.Errorf("Sum of %d bytes = %x, want %x", n, got, want)
			}
		}
	}
}

func TestSumOfEveryByte(t *testing.T) {
	for x := range 256 {
		for _, n := range []int{1, 3, 64, 65} {
			b := rep(byte(x), n)
			if got, want := Sum(b), library(b); got != want {
				t.Errorf("Sum of %d bytes %x = %x, want %x", n, x, got, want)
			}
		}
	}
}

func TestSumOfOneDigitInABlock(t *testing.T) {
	for i := range 2 * 64 * 8 {
		b := make([]byte, 128)
		b[i/8] = 1 << (i % 8)
		if got, want := Sum(b), library(b); got != want {
			t.Errorf("digit %d: %x, want %x", i, got, want)
		}
	}
}

// Rows so long that their digits need more than four bytes are too long to be
// summed at each run: what stands behind them is looked at alone.
func TestEndingOfLongRows(t *testing.T) {
	for _, c := range []struct {
		count  uint64
		zeros  int
		digits []byte
	}{
		{0, 55, []byte{0, 0, 0, 0, 0, 0, 0, 0}},
		{55, 0, []byte{0, 0, 0, 0, 0, 0, 0x01, 0xb8}},
		{56, 63, []byte{0, 0, 0, 0, 0, 0, 0x01, 0xc0}},
		{63, 56, []byte{0, 0, 0, 0, 0, 0, 0x01, 0xf8}},
		{64, 55, []byte{0, 0, 0, 0, 0, 0, 0x02, 0x00}},
		{1<<29 - 1, 56, []byte{0, 0, 0, 0, 0xff, 0xff, 0xff, 0xf8}},
		{1 << 29, 55, []byte{0, 0, 0, 1, 0, 0, 0, 0}},
		{1<<31 - 1, 56, []byte{0, 0, 0, 3, 0xff, 0xff, 0xff, 0xf8}},
		{1<<31 + 32, 23, []byte{0, 0, 0, 4, 0, 0, 0x01, 0x00}},
		{0x0102030405060708, 47, []byte{0x08, 0x10, 0x18, 0x20, 0x28, 0x30, 0x38, 0x40}},
	} {
		want := cat([]byte{0x80}, rep(0, c.zeros), c.digits)
		if got := ending(c.count); !bytes.Equal(got, want) {
			t.Errorf("behind %d bytes stand % x, want % x", c.count, got, want)
		}
	}
}

// P2.2

func TestLeaf(t *testing.T) {
	for _, n := range lengths() {
		b := row(n)
		if got, want := Leaf(b), library([]byte{0}, b); got != want {
			t.Errorf("Leaf of %d bytes = %x, want %x", n, got, want)
		}
	}
	if Leaf(nil) != Leaf([]byte{}) {
		t.Error("no bytes and nil have unlike leaves")
	}
}

func TestNode(t *testing.T) {
	for _, l := range hashes() {
		for _, r := range hashes() {
			if got, want := Node(l, r), library([]byte{1}, l[:], r[:]); got != want {
				t.Errorf("Node(%x, %x) = %x, want %x", l, r, got, want)
			}
		}
	}
}

func TestChain(t *testing.T) {
	for i, h := range hashes() {
		for _, n := range []int{0, 1, i, 21, 22, 23, 30, 31, 32, 86, 87, 94, 95, 96, 500} {
			b := row(n)
			if got, want := Chain(h, b), library([]byte{2}, h[:], b); got != want {
				t.Errorf("Chain(%x, %d bytes) = %x, want %x", h, n, got, want)
			}
		}
	}
	for _, n := range lengths() {
		h, b := Sum(row(n)), row(n)
		if got, want := Chain(h, b), library([]byte{2}, h[:], b); got != want {
			t.Errorf("Chain(%x, %d bytes) = %x, want %x", h, n, got, want)
		}
	}
	if Chain(api.Hash{}, nil) != Chain(api.Hash{}, []byte{}) {
		t.Error("no bytes and nil have unlike chains")
	}
}

func TestMarksAreThoseOfSum(t *testing.T) {
	l, r := Sum(nil), Sum([]byte("x"))
	pair := cat(l[:], r[:])
	if Leaf(pair) != Sum(cat([]byte{0}, pair)) || Node(l, r) != Sum(cat([]byte{1}, pair)) || Chain(l, r[:]) != Sum(cat([]byte{2}, pair)) {
		t.Error("a mark is another byte")
	}
	told := map[api.Hash]string{}
	for name, h := range map[string]api.Hash{
		"Sum": Sum(pair), "Leaf": Leaf(pair), "Node": Node(l, r), "turned Node": Node(r, l), "Chain": Chain(l, r[:]), "turned Chain": Chain(r, l[:]),
	} {
		if other, has := told[h]; has {
			t.Errorf("%s and %s of the same bytes are one", name, other)
		}
		told[h] = name
	}
}

func TestExamples(t *testing.T) {
	if s := Hex(Sum([]byte("abc"))); s != "ba7816bf8f01cfea414140de5dae2223b00361a396177a9cb410ff61f20015ad" {
		t.Error(s)
	}
	if s := Hex(Leaf(nil)); s != "6e340b9cffb37a989ca544e6bb780a2c78901d3fb33738768511a30617afa01d" {
		t.Error(s)
	}
}

// P2.3

func TestHex(t *testing.T) {
	for _, h := range hashes() {
		s := Hex(h)
		if s != hex.EncodeToString(h[:]) || len(s) != 64 || s != strings.ToLower(s) {
			t.Errorf("Hex(%x) = %s", h, s)
		}
	}
	for x := range 256 {
		h := api.Hash{0: byte(x), 17: byte(x), 31: byte(x)}
		if s := Hex(h); s != hex.EncodeToString(h[:]) {
			t.Errorf("Hex(%x) = %s", h, s)
		}
	}
}

func refused(t *testing.T, s string) {
	t.Helper()
	if h, e := FromHex(s); h != (api.Hash{}) || e != api.ErrForm {
		t.Errorf("FromHex(%q) = %x, %v", s, h, e)
	}
}

func TestFromHexOfOtherLengths(t *testing.T) {
	long := strings.Repeat(Hex(Sum(nil)), 4)
	for n := range len(long) + 1 {
		if n != 64 {
			refused(t, long[:n])
		}
	}
	refused(t, strings.Repeat("0", 1<<20))
}

func TestFromHexOfEverySign(t *testing.T) {
	good := Hex(Sum([]byte("abc")))
	for i := range good {
		for x := range 256 {
			s := good[:i] + string([]byte{byte(x)}) + good[i+1:]
			if !strings.ContainsRune("0123456789abcdef", rune(x)) {
				refused(t, s)
				continue
			}
			want, _ := hex.DecodeString(s)
			if h, e := FromHex(s); h != api.Hash(want) || e != api.OK {
				t.Errorf("FromHex(%q) = %x, %v", s, h, e)
			}
		}
	}
}

func TestFromHexWrong(t *testing.T) {
	good := Hex(Sum([]byte("abc")))
	for _, s := range []string{
		"", " ", "0", strings.ToUpper(good), good[:63], good[1:], good + "0", "0" + good, good + " ", " " + good, good + "\n", good + "\x00",
		"0x" + good, "0x" + good[2:], "+" + good[1:], "-" + good[1:], good[:63] + "g", good[:63] + "F", "A" + good[1:],
		strings.Repeat("\u0661", 32), strings.Repeat("\uff11", 64), strings.Repeat("\xff", 64), strings.Repeat("\x00", 64), strings.Repeat("0_", 32),
	} {
		refused(t, s)
	}
}

// P2.4

func TestFromHexIsTheWayBack(t *testing.T) {
	for _, h := range hashes() {
		if got, e := FromHex(Hex(h)); got != h || e != api.OK {
			t.Errorf("FromHex(Hex(%x)) = %x, %v", h, got, e)
		}
	}
}

func TestDigestsAreKeys(t *testing.T) {
	places := map[api.Hash]int{}
	for i := range 500 {
		places[Leaf(row(i))] = i
	}
	for i := range 500 {
		if got, has := places[Leaf(row(i))]; !has || got != i {
			t.Errorf("leaf %d is found at %d", i, got)
		}
	}
}

// P2.4, W6, W7

// summers are the calls that take bytes.
func summers() map[string]func([]byte) api.Hash {
	return map[string]func([]byte) api.Hash{
		"Sum":   Sum,
		"Leaf":  Leaf,
		"Chain": func(b []byte) api.Hash { return Chain(api.Hash{5: 7}, b) },
	}
}

func TestHandedInIsNotChanged(t *testing.T) {
	for name, sum := range summers() {
		for n := range 200 {
			room := cat(row(n), rep(0xa5, 80))
			sum(room[:n])
			if !bytes.Equal(room, cat(row(n), rep(0xa5, 80))) {
				t.Errorf("%s changes %d bytes or their spare room", name, n)
			}
		}
	}
	l, r := Sum([]byte("l")), Sum([]byte("r"))
	Node(l, r)
	Chain(l, r[:])
	Hex(l)
	if l != library([]byte("l")) || r != library([]byte("r")) {
		t.Error("a digest that was handed in has changed")
	}
}

func TestSpareRoomIsNotRead(t *testing.T) {
	for name, sum := range summers() {
		for n := range 200 {
			want := sum(row(n))
			for _, x := range []byte{0x00, 0x80, 0xff} {
				if sum(cat(row(n), rep(x, 80))[:n]) != want {
					t.Errorf("%s of %d bytes hangs on their spare room", name, n)
				}
			}
		}
	}
}

func TestHandedInIsNotKept(t *testing.T) {
	for name, sum := range summers() {
		for n := range 200 {
			given := row(n)
			before := sum(given)
			kept := before
			for i := range given {
				given[i] ^= 0xff
			}
			if sum(given); before != kept || sum(row(n)) != kept {
				t.Errorf("%s of %d bytes hangs on a call before", name, n)
			}
		}
	}
}

func TestAnswersStay(t *testing.T) {
	texts, digests := []string{}, []api.Hash{}
	for _, h := range hashes() {
		texts = append(texts, Hex(h))
		back, _ := FromHex(Hex(h))
		digests = append(digests, back)
	}
	for i, h := range hashes() {
		if texts[i] != hex.EncodeToString(h[:]) || digests[i] != h {
			t.Errorf("answer %d became %s, %x", i, texts[i], digests[i])
		}
	}
}

// W2: calls that run at the same time do not mix what they hold.
func TestSideBySide(t *testing.T) {
	var wait sync.WaitGroup
	got := make([]api.Hash, 64)
	for i := range got {
		wait.Go(func() { got[i] = Chain(Leaf(row(1000+i)), row(i)) })
	}
	wait.Wait()
	for i, h := range got {
		leaf := library([]byte{0}, row(1000+i))
		if h != library([]byte{2}, leaf[:], row(i)) {
			t.Errorf("call %d answers %x", i, h)
		}
	}
}

// W1: whatever comes, every call ends and answers what the chapter says.
func FuzzAnyBytes(f *testing.F) {
	for _, n := range []int{0, 1, 31, 32, 55, 56, 63, 64, 65, 119, 120, 127, 128} {
		f.Add(row(n))
	}
	f.Add([]byte(Hex(Sum(nil))))
	f.Fuzz(func(t *testing.T, b []byte) {
		if Sum(b) != library(b) || Leaf(b) != library([]byte{0}, b) {
			t.Errorf("Sum or Leaf of % x", b)
		}
		h := Sum(b)
		if Chain(h, b) != library([]byte{2}, h[:], b) || Node(h, h) != library([]byte{1}, h[:], h[:]) {
			t.Errorf("Chain or Node of % x", b)
		}
		if back, e := FromHex(string(b)); e == api.OK && Hex(back) != string(b) || e != api.OK && (e != api.ErrForm || back != api.Hash{}) {
			t.Errorf("FromHex(%q) = %x, %v", b, back, e)
		}
	})
}
