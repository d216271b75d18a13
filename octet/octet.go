// Package octet is numbers as bytes: see DOC.md, chapter 1.
package octet

import "scrivener/api"

const (
	bigBytes   = 8
	shortBytes = 4

	lowDigits = 0x7f // the seven digits that a byte of a Uvarint carries
	moreBit   = 0x80 // another byte of the Uvarint follows

	// Nine bytes carry 63 digits, so that the tenth has room for one alone.
	lastByte    = 9
	lastByteMax = 1
)

// Uvarint is a number in seven digits a byte.
func Uvarint(v uint64) []byte {
	var out []byte
	for v > lowDigits {
		out = append(out, byte(v)|moreBit)
		v >>= 7
	}
	return append(out, byte(v))
}

// ReadUvarint is the way back, and how many bytes it took.
func ReadUvarint(b []byte) (uint64, int, api.Errno) {
	var v uint64
	for i, x := range b {
		// This also ends the loop at the tenth byte, one with moreBit included.
		if i == lastByte && x > lastByteMax {
			return 0, 0, api.ErrForm
		}
		v |= uint64(x&lowDigits) << (7 * i)
		if x > lowDigits {
			continue
		}
		// A highest byte without a digit would give the number a second form.
		if i > 0 && x == 0 {
			return 0, 0, api.ErrForm
		}
		return v, i + 1, api.OK
	}
	return 0, 0, api.ErrShort
}

// Zig is a number of both signs as one without.
func Zig(v int64) uint64 {
	// The shift keeps the sign: all digits of it are 1 below zero, else 0.
	sign := uint64(v >> 63)
	return uint64(v)<<1 ^ sign
}

// Zag is the way back.
func Zag(u uint64) int64 {
	sign := -int64(u & 1)
	return int64(u>>1) ^ sign
}

// Big is a number in eight bytes.
func Big(v uint64) []byte { return highFirst(v, bigBytes) }

// ReadBig is the way back.
func ReadBig(b []byte) (uint64, api.Errno) {
	if len(b) < bigBytes {
		return 0, api.ErrShort
	}
	return join(b[:bigBytes]), api.OK
}

// Short is a number in four bytes.
func Short(v uint32) []byte { return highFirst(uint64(v), shortBytes) }

// ReadShort is the way back.
func ReadShort(b []byte) (uint32, api.Errno) {
	if len(b) < shortBytes {
		return 0, api.ErrShort
	}
	return uint32(join(b[:shortBytes])), api.OK
}

// highFirst is the lowest n bytes of a number, the highest of them first.
func highFirst(v uint64, n int) []byte {
	out := make([]byte, n)
	for i := range out {
		out[i] = byte(v >> (8 * (n - 1 - i)))
	}
	return out
}

// join is the way back from highFirst.
func join(b []byte) uint64 {
	var v uint64
	for _, x := range b {
		v = v<<8 | uint64(x)
	}
	return v
}

// Sum is the check sum of bytes: CRC-32 with the polynomial edb88320.
func Sum(b []byte) uint32 {
	// What four digits that are shifted out leave behind; the entry 8 is the
	// polynomial itself, and each entry is the xor of those of its digits.
	table := [16]uint32{
		0x00000000, 0x1db71064, 0x3b6e20c8, 0x26d930ac,
		0x76dc4190, 0x6b6b51f4, 0x4db26158, 0x5005713c,
		0xedb88320, 0xf00f9344, 0xd6d6a3e8, 0xcb61b38c,
		0x9b64c2b0, 0x86d3d2d4, 0xa00ae278, 0xbdbdf21c,
	}
	sum := ^uint32(0)
	for _, x := range b {
		sum ^= uint32(x)
		sum = sum>>4 ^ table[sum&0xf]
		sum = sum>>4 ^ table[sum&0xf]
	}
	return ^sum
}
