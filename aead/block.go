package aead

import (
	"math/bits"
	"slices"

	"pharos/api"
)

// size is how many bytes a block has.
const size = 64

// nonceSize is how many bytes a nonce has.
const nonceSize = 12

// constant is what stands ahead of every key.
const constant = "expand 32-byte k"

// counter is which word the number of a block is.
const counter = 12

// rounds is how often all of the rows are mixed.
const rounds = 10

// rows are which words are mixed, one row after the other: of a square of four by four the columns, and then the diagonals.
var rows = [8][4]int{
	{0, 4, 8, 12}, {1, 5, 9, 13}, {2, 6, 10, 14}, {3, 7, 11, 15},
	{0, 5, 10, 15}, {1, 6, 11, 12}, {2, 7, 8, 13}, {3, 4, 9, 14},
}

// words are what a block is made of.
type words [size / 4]uint32

// Block is the one with that number, of a key and a nonce.
func Block(key, nonce string, n uint32) (string, api.Errno) {
	if !fits(key, nonce) {
		return "", api.ErrArg
	}
	return string(lay(key, nonce).block(n)), api.OK
}

// fits tells whether both are as long as they must be.
func fits(key, nonce string) bool {
	return len(key) == api.Key && len(nonce) == nonceSize
}

// lay are the words that the blocks of a key and a nonce begin with, but for their number.
func lay(key, nonce string) words {
	var w words
	s := constant + key + "\x00\x00\x00\x00" + nonce
	for i := range len(s) {
		w[i/4] |= uint32(s[i]) << (i % 4 * 8)
	}
	return w
}

// turn is a text, each byte of it exclusive or that of the blocks from 1 on: what was turned once, is turned back.
func (w words) turn(s string) string {
	out := make([]byte, 0, len(s))
	n := uint32(0)
	for part := range slices.Chunk([]byte(s), size) {
		n++
		block := w.block(n)
		for i, x := range part {
			out = append(out, x^block[i])
		}
	}
	return string(out)
}

// block are the bytes of the block with that number. What the words were at first is added at the end, as mixing alone could be undone.
func (w words) block(n uint32) []byte {
	w[counter] = n
	b := make([]byte, 0, size)
	for i, x := range w.mixed() {
		b = pack(b, uint64(w[i]+x), 4)
	}
	return b
}

// mixed are the words, mixed row by row, all rounds.
func (w words) mixed() words {
	for range rounds {
		for _, row := range rows {
			mix(&w[row[0]], &w[row[1]], &w[row[2]], &w[row[3]])
		}
	}
	return w
}

// mix lets each of four words hang on all of them.
func mix(a, b, c, d *uint32) {
	stir(a, b, d, 16)
	stir(c, d, b, 12)
	stir(a, b, d, 8)
	stir(c, d, b, 7)
}

// stir adds y to x; z becomes z, exclusive or that, turned to the left.
func stir(x, y, z *uint32, by int) {
	*x += *y
	*z = bits.RotateLeft32(*z^*x, by)
}

// pack adds the n lowest bytes of x, the lowest first.
func pack(b []byte, x uint64, n int) []byte {
	for i := range n {
		b = append(b, byte(x>>(8*i)))
	}
	return b
}
