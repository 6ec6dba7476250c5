package order

import "math/bits"

// words are a number below 2^256, the lowest word first.
type words [4]uint64

// whole is L.
var whole = words{0x5812631a5cf5d3ed, 0x14def9dea2f79cd6, 0, 1 << 60}

// read are the words that bytes are, eight to each, the lowest first.
func read(s string) []uint64 {
	all := make([]uint64, len(s)/8)
	for i := range len(s) {
		all[i/8] |= uint64(s[i]) << (i % 8 * 8)
	}
	return all
}

// write is read the other way.
func (w words) write() string {
	var s [size]byte
	for i := range s {
		s[i] = byte(w[i/8] >> (i % 8 * 8))
	}
	return string(s[:])
}

// modulo is what the words are, the lowest first, modulo L: their bits are pushed one by one, from the highest on.
func modulo(all ...uint64) words {
	var rest words
	for i := len(all) - 1; i >= 0; i-- {
		for bit := 63; bit >= 0; bit-- {
			rest.push(all[i] >> bit & 1)
		}
	}
	return rest
}

// push makes of w, below L, twice w and the bit, modulo L. That is below 2L, so L is to be taken away once, or not at all.
func (w *words) push(bit uint64) {
	w0, carry := bits.Add64(w[0], w[0], bit)
	w1, carry := bits.Add64(w[1], w[1], carry)
	w2, carry := bits.Add64(w[2], w[2], carry)
	w3, _ := bits.Add64(w[3], w[3], carry)
	l0, l1, l2, l3, borrow := less(w0, w1, w2, w3)
	w[0] = pick(borrow, l0, w0)
	w[1] = pick(borrow, l1, w1)
	w[2] = pick(borrow, l2, w2)
	w[3] = pick(borrow, l3, w3)
}

// less are the words of what these words are without L, and 1 if that had to be borrowed for. (Words that stand alone stay in registers: hundreds of bits are pushed.)
func less(w0, w1, w2, w3 uint64) (uint64, uint64, uint64, uint64, uint64) {
	w0, borrow := bits.Sub64(w0, whole[0], 0)
	w1, borrow = bits.Sub64(w1, whole[1], borrow)
	w2, borrow = bits.Sub64(w2, whole[2], borrow)
	w3, borrow = bits.Sub64(w3, whole[3], borrow)
	return w0, w1, w2, w3, borrow
}

// pick is b, if the borrow is 1, and a, if it is 0.
func pick(borrow, a, b uint64) uint64 {
	return a ^ -borrow&(a^b)
}

// below tells whether it is below L.
func (w words) below() bool {
	_, _, _, _, borrow := less(w[0], w[1], w[2], w[3])
	return borrow != 0
}

// product is a times b, and c, which eight words always hold.
func product(a, b, c words) [8]uint64 {
	var all [8]uint64
	copy(all[:], c[:])
	for i, x := range a {
		var carry uint64
		for j, y := range b {
			all[i+j], carry = step(x, y, all[i+j], carry)
		}
		all[i+4] = carry
	}
	return all
}

// step is the low word and the high one of x * y + s + carry, which two words always hold.
func step(x, y, s, carry uint64) (uint64, uint64) {
	high, low := bits.Mul64(x, y)
	low, one := bits.Add64(low, s, 0)
	low, two := bits.Add64(low, carry, 0)
	return low, high + one + two
}

// like tells whether both are the same; how far they are is not told by the time it takes.
func (w words) like(v words) bool {
	return (w[0]^v[0])|(w[1]^v[1])|(w[2]^v[2])|(w[3]^v[3]) == 0
}
