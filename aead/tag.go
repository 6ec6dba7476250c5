package aead

import (
	"slices"

	"pharos/api"
)

// digit is how many bits a digit of a number has.
const digit = 26

// over is what 2^130 is, modulo 2^130 - 5.
const over = 5

// number is one modulo 2^130 - 5, by its digits, the lowest first. They have room for more bits than theirs, so that products may be added before anything is carried.
type number [5]uint64

// Tag is the tag of a text by a key, which is to be used for one text alone.
func Tag(key, s string) (string, api.Errno) {
	if len(key) != api.Key {
		return "", api.ErrArg
	}
	return tagOf([]byte(key), s), api.OK
}

// tagOf is the tag by a key that is as long as it must be.
func tagOf(key []byte, s string) string {
	r := read(clamped(key))
	var a number
	for part := range slices.Chunk([]byte(s), api.Tag) {
		a = a.plus(ended(part)).times(r)
	}
	return a.least().plus(read(key[api.Tag:])).write()
}

// clamped are the first bytes of a key, without the bits that a number to multiply by has not.
func clamped(key []byte) []byte {
	b := slices.Clone(key[:api.Tag])
	for _, i := range [...]int{3, 7, 11, 15} {
		b[i] &= 1<<4 - 1
	}
	for _, i := range [...]int{4, 8, 12} {
		b[i] &^= 1<<2 - 1
	}
	return b
}

// ended is the number of a part of a text and a byte 1 behind it, by which parts are told apart that differ in their bytes 0 at the end alone.
func ended(part []byte) number {
	var b [api.Tag + 1]byte
	n := copy(b[:], part)
	b[n] = 1
	return read(b[:])
}

// read is the number that bytes are, the lowest first.
func read(b []byte) number {
	var a number
	for i, x := range b {
		a[8*i/digit] += uint64(x) << (8 * i % digit)
	}
	a, _ = a.carried()
	return a
}

// plus is the sum, whose digits are not carried.
func (a number) plus(b number) number {
	for i := range a {
		a[i] += b[i]
	}
	return a
}

// times is the product, settled. A digit of it is five products, each taken five times at the most: of digits below 2^28 they stay below 2^64.
func (a number) times(b number) number {
	var product number
	for i, x := range a {
		for j, y := range b {
			if at := i + j; at < len(product) {
				product[at] += x * y
			} else {
				product[at-len(product)] += over * x * y
			}
		}
	}
	return product.settled()
}

// settled is the number below 2^130, its lowest digit at most 4 above what a digit may be: the first time much is carried out of the highest digit, the second time 1 or nothing, and if it is 1, little is left.
func (a number) settled() number {
	for range 2 {
		b, carry := a.carried()
		b[0] += over * carry
		a = b
	}
	return a
}

// carried is the number whose digits have no more bits than theirs, and what was carried out of the highest one.
func (a number) carried() (number, uint64) {
	var carry uint64
	for i := range a {
		a[i] += carry
		carry = a[i] >> digit
		a[i] &= 1<<digit - 1
	}
	return a, carry
}

// least is a settled number made less than 2^130 - 5. Whether it has to be is chosen by a mask, as the number is a secret.
func (a number) least() number {
	rest, carry := a.plus(number{over}).carried()
	for i := range a {
		a[i] ^= (a[i] ^ rest[i]) & -carry
	}
	return a
}

// write are the lowest 16 bytes, the lowest first.
func (a number) write() string {
	a, _ = a.carried()
	low := a[0] | a[1]<<digit | a[2]<<(2*digit)
	high := a[2]>>(64-2*digit) | a[3]<<(3*digit-64) | a[4]<<(4*digit-64)
	return string(pack(pack(nil, low, 8), high, 8))
}
