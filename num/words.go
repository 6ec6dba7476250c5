package num

import "math/bits"

// words are a number below 2^256, the lowest word first.
type words [4]uint64

// prime is p.
var prime = words{1<<64 - 19, 1<<64 - 1, 1<<64 - 1, 1<<63 - 1}

// read is the number that 32 bytes are.
func read(s string) words {
	var w words
	for i := range size {
		w[i/8] |= uint64(s[i]) << (i % 8 * 8)
	}
	return w
}

// write is read the other way.
func (w words) write() string {
	var s [size]byte
	for i := range s {
		s[i] = byte(w[i/8] >> (i % 8 * 8))
	}
	return string(s[:])
}

// plus is the sum, modulo 2^256.
func plus(a, b words) words {
	w0, carry := bits.Add64(a[0], b[0], 0)
	w1, carry := bits.Add64(a[1], b[1], carry)
	w2, carry := bits.Add64(a[2], b[2], carry)
	w3, _ := bits.Add64(a[3], b[3], carry)
	return words{w0, w1, w2, w3}
}

// minus is the difference, and 1 if it had to be borrowed for.
func minus(a, b words) (words, uint64) {
	w0, borrow := bits.Sub64(a[0], b[0], 0)
	w1, borrow := bits.Sub64(a[1], b[1], borrow)
	w2, borrow := bits.Sub64(a[2], b[2], borrow)
	w3, borrow := bits.Sub64(a[3], b[3], borrow)
	return words{w0, w1, w2, w3}, borrow
}

// times is the product modulo p, of any two.
func times(a, b words) words {
	l0, h0, h1, h2, h3 := row(a[0], b[0], b[1], b[2], b[3], 0, 0, 0, 0)
	l1, h0, h1, h2, h3 := row(a[1], b[0], b[1], b[2], b[3], h0, h1, h2, h3)
	l2, h0, h1, h2, h3 := row(a[2], b[0], b[1], b[2], b[3], h0, h1, h2, h3)
	l3, h0, h1, h2, h3 := row(a[3], b[0], b[1], b[2], b[3], h0, h1, h2, h3)
	l0, l1, l2, l3, top := row(38, h0, h1, h2, h3, l0, l1, l2, l3) // 2^256 is 2p + 38
	return fold(words{l0, l1, l2, l3}, top)
}

// row is x times the number that the words b are, and the number that the words s are, in five words. Words that stand alone stay in registers: this is where nearly all the time goes.
func row(x, b0, b1, b2, b3, s0, s1, s2, s3 uint64) (uint64, uint64, uint64, uint64, uint64) {
	w0, carry := step(x, b0, s0, 0)
	w1, carry := step(x, b1, s1, carry)
	w2, carry := step(x, b2, s2, carry)
	w3, carry := step(x, b3, s3, carry)
	return w0, w1, w2, w3, carry
}

// step is the low word and the high one of x * y + s + carry, which two words always hold.
func step(x, y, s, carry uint64) (uint64, uint64) {
	high, low := bits.Mul64(x, y)
	low, one := bits.Add64(low, s, 0)
	low, two := bits.Add64(low, carry, 0)
	return low, high + one + two
}

// fold is w and top times 2^256, modulo p, for a top of a few bits: what stands above the lowest 255 bits counts 19 times, and what that leaves is below 2p.
func fold(w words, top uint64) words {
	over := top<<1 | w[3]>>63
	w0, carry := bits.Add64(w[0], 19*over, 0)
	w1, carry := bits.Add64(w[1], 0, carry)
	w2, carry := bits.Add64(w[2], 0, carry)
	return below(words{w0, w1, w2, w[3]&(1<<63-1) + carry})
}

// below is w modulo p, if w is below 2p.
func below(w words) words {
	rest, borrow := minus(w, prime)
	return pick(-borrow, rest, w)
}

// pick is b where the mask has ones, else a.
func pick(mask uint64, a, b words) words {
	return words{
		a[0] ^ mask&(a[0]^b[0]),
		a[1] ^ mask&(a[1]^b[1]),
		a[2] ^ mask&(a[2]^b[2]),
		a[3] ^ mask&(a[3]^b[3]),
	}
}

// alike is a mask: all ones, if both are one number.
func alike(a, b words) uint64 {
	differ := (a[0] ^ b[0]) | (a[1] ^ b[1]) | (a[2] ^ b[2]) | (a[3] ^ b[3])
	return (differ|-differ)>>63 - 1
}

// mask is all ones, if it is. The language has no other way from a bool to a number; it is compiled to a move, not to a jump.
func mask(is bool) uint64 {
	var one uint64
	if is {
		one = 1
	}
	return -one
}
