package digest

import "scrivener/api"

const (
	blockBytes = 64
	countBytes = 8 // at the end of the last block, for how many digits came
	endMark    = 0x80
)

// summer takes bytes piece by piece, so that no row has to be copied to stand
// behind its mark.
type summer struct {
	state [8]uint32
	block [blockBytes]byte // its first count % blockBytes bytes wait for more
	count uint64
}

// begin is a summer to which these bytes have come.
func begin(first ...byte) summer {
	s := summer{state: [8]uint32{
		0x6a09e667, 0xbb67ae85, 0x3c6ef372, 0xa54ff53a,
		0x510e527f, 0x9b05688c, 0x1f83d9ab, 0x5be0cd19,
	}}
	s.add(first)
	return s
}

func (s *summer) add(b []byte) {
	for len(b) > 0 {
		n := copy(s.block[s.count%blockBytes:], b)
		s.count += uint64(n)
		b = b[n:]
		if s.count%blockBytes == 0 {
			s.state = stir(s.state, s.block)
		}
	}
}

func (s *summer) end() api.Hash {
	s.add(ending(s.count))
	var h api.Hash
	for i := range h {
		h[i] = byte(s.state[i/4] >> (24 - 8*(i%4)))
	}
	return h
}

// ending is what stands behind so many bytes to fill the last block.
func ending(count uint64) []byte {
	out := []byte{endMark}
	for (count+uint64(len(out))+countBytes)%blockBytes != 0 {
		out = append(out, 0)
	}
	digits := 8 * count
	for i := range countBytes {
		out = append(out, byte(digits>>(56-8*i)))
	}
	return out
}

// stir is the state once a block has gone through the 64 rounds.
func stir(state [8]uint32, block [blockBytes]byte) [8]uint32 {
	k := [64]uint32{
		0x428a2f98, 0x71374491, 0xb5c0fbcf, 0xe9b5dba5, 0x3956c25b, 0x59f111f1, 0x923f82a4, 0xab1c5ed5,
		0xd807aa98, 0x12835b01, 0x243185be, 0x550c7dc3, 0x72be5d74, 0x80deb1fe, 0x9bdc06a7, 0xc19bf174,
		0xe49b69c1, 0xefbe4786, 0x0fc19dc6, 0x240ca1cc, 0x2de92c6f, 0x4a7484aa, 0x5cb0a9dc, 0x76f988da,
		0x983e5152, 0xa831c66d, 0xb00327c8, 0xbf597fc7, 0xc6e00bf3, 0xd5a79147, 0x06ca6351, 0x14292967,
		0x27b70a85, 0x2e1b2138, 0x4d2c6dfc, 0x53380d13, 0x650a7354, 0x766a0abb, 0x81c2c92e, 0x92722c85,
		0xa2bfe8a1, 0xa81a664b, 0xc24b8b70, 0xc76c51a3, 0xd192e819, 0xd6990624, 0xf40e3585, 0x106aa070,
		0x19a4c116, 0x1e376c08, 0x2748774c, 0x34b0bcb5, 0x391c0cb3, 0x4ed8aa4a, 0x5b9cca4f, 0x682e6ff3,
		0x748f82ee, 0x78a5636f, 0x84c87814, 0x8cc70208, 0x90befffa, 0xa4506ceb, 0xbef9a3f7, 0xc67178f2,
	}
	a, b, c, d := state[0], state[1], state[2], state[3]
	e, f, g, h := state[4], state[5], state[6], state[7]
	for i, w := range spread(block) {
		t := h + (turn(e, 6) ^ turn(e, 11) ^ turn(e, 25)) + (e&f ^ ^e&g) + k[i] + w
		u := (turn(a, 2) ^ turn(a, 13) ^ turn(a, 22)) + (a&b ^ a&c ^ b&c)
		h, g, f, e, d, c, b, a = g, f, e, d+t, c, b, a, t+u
	}
	for i, x := range [8]uint32{a, b, c, d, e, f, g, h} {
		state[i] += x
	}
	return state
}

// spread is the words of a block, one a round: sixteen of its own, and those
// that come of them.
func spread(block [blockBytes]byte) [64]uint32 {
	var w [64]uint32
	for i, x := range block {
		w[i/4] = w[i/4]<<8 | uint32(x)
	}
	for i := 16; i < len(w); i++ {
		x, y := w[i-15], w[i-2]
		s0 := turn(x, 7) ^ turn(x, 18) ^ x>>3
		s1 := turn(y, 17) ^ turn(y, 19) ^ y>>10
		w[i] = w[i-16] + s0 + w[i-7] + s1
	}
	return w
}

// turn is a word turned n digits to the right.
func turn(x uint32, n int) uint32 { return x>>n | x<<(32-n) }
