package sum

import "math/bits"

// words are what a digest is made of, a to h.
type words [8]uint32

// begin are the words to begin with, H(0) to H(7).
var begin = words{
	0x6a09e667, 0xbb67ae85, 0x3c6ef372, 0xa54ff53a, 0x510e527f, 0x9b05688c, 0x1f83d9ab, 0x5be0cd19,
}

// rounds is how often the words of a block are mixed.
const rounds = 64

// constants are K(0) to K(63), one to each round.
var constants = [rounds]uint32{
	0x428a2f98, 0x71374491, 0xb5c0fbcf, 0xe9b5dba5, 0x3956c25b, 0x59f111f1, 0x923f82a4, 0xab1c5ed5,
	0xd807aa98, 0x12835b01, 0x243185be, 0x550c7dc3, 0x72be5d74, 0x80deb1fe, 0x9bdc06a7, 0xc19bf174,
	0xe49b69c1, 0xefbe4786, 0x0fc19dc6, 0x240ca1cc, 0x2de92c6f, 0x4a7484aa, 0x5cb0a9dc, 0x76f988da,
	0x983e5152, 0xa831c66d, 0xb00327c8, 0xbf597fc7, 0xc6e00bf3, 0xd5a79147, 0x06ca6351, 0x14292967,
	0x27b70a85, 0x2e1b2138, 0x4d2c6dfc, 0x53380d13, 0x650a7354, 0x766a0abb, 0x81c2c92e, 0x92722c85,
	0xa2bfe8a1, 0xa81a664b, 0xc24b8b70, 0xc76c51a3, 0xd192e819, 0xd6990624, 0xf40e3585, 0x106aa070,
	0x19a4c116, 0x1e376c08, 0x2748774c, 0x34b0bcb5, 0x391c0cb3, 0x4ed8aa4a, 0x5b9cca4f, 0x682e6ff3,
	0x748f82ee, 0x78a5636f, 0x84c87814, 0x8cc70208, 0x90befffa, 0xa4506ceb, 0xbef9a3f7, 0xc67178f2,
}

// next are the words behind one more block.
func (h words) next(block []byte) words {
	x := h
	for i, w := range spread(block) {
		a, b, c, e, f, g := x[0], x[1], x[2], x[4], x[5], x[6]
		first, fifth := turning(a), turning(e)
		u := x[7] + (fifth(6) ^ fifth(11) ^ fifth(25)) + (e&f ^ ^e&g) + constants[i] + w
		v := (first(2) ^ first(13) ^ first(22)) + (a&b ^ a&c ^ b&c)
		copy(x[1:], x[:len(x)-1])
		x[0] = u + v
		x[4] += u // it was d
	}
	for i := range x {
		x[i] += h[i]
	}
	return x
}

// spread are W(0) to W(63) of a block.
func spread(block []byte) [rounds]uint32 {
	var w [rounds]uint32
	for i := range size / 4 {
		w[i] = unpack(block[4*i:])
	}
	for i := size / 4; i < rounds; i++ {
		x, y := w[i-15], w[i-2]
		early, late := turning(x), turning(y)
		w[i] = w[i-16] + (early(7) ^ early(18) ^ x>>3) + w[i-7] + (late(17) ^ late(19) ^ y>>10)
	}
	return w
}

// turning tells a word, turned to the right by as many bits as it is asked for.
func turning(x uint32) func(by int) uint32 {
	return func(by int) uint32 {
		return bits.RotateLeft32(x, -by)
	}
}

// write are the bytes of all words.
func (h words) write() string {
	b := make([]byte, 0, 4*len(h))
	for _, w := range h {
		b = pack(b, w)
	}
	return string(b)
}

// pack adds the four bytes of a word, the highest first.
func pack(b []byte, w uint32) []byte {
	return append(b, byte(w>>24), byte(w>>16), byte(w>>8), byte(w))
}

// unpack is the word of four bytes, the highest first.
func unpack(b []byte) uint32 {
	return uint32(b[0])<<24 | uint32(b[1])<<16 | uint32(b[2])<<8 | uint32(b[3])
}
