package rofs

import (
	"strings"

	"pharos/api"
)

// caught does a reading, and tells what it panicked with. A panic goes no further, whatever it was: bytes that can't be read are no image.
func caught(reading func()) (e api.Errno) {
	defer func() {
		if x := recover(); x != nil {
			e = api.ErrImage
			if told, is := x.(api.Errno); is {
				e = told
			}
		}
	}()
	reading()
	return api.OK
}

// demand ends a reading, unless what it found is as it must be.
func demand(is bool) {
	if !is {
		panic(api.ErrImage)
	}
}

// number is the one that bytes are, the lowest first.
func number(s string) uint32 {
	n := uint32(0)
	for k := range len(s) {
		n |= uint32(s[k]) << (8 * k)
	}
	return n
}

// word is the k-th number of those of four bytes.
func word(s string, k int) uint32 {
	return number(s[4*k : 4*k+4])
}

// words are numbers, one behind the other, in four bytes each.
func words(l ...uint32) string {
	b := make([]byte, 0, 4*len(l))
	for _, n := range l {
		b = append(b, byte(n), byte(n>>8), byte(n>>16), byte(n>>24))
	}
	return string(b)
}

// zeros are n bytes 0.
func zeros(n int) string {
	return strings.Repeat("\x00", n)
}

// zero tells whether all bytes are 0.
func zero(s string) bool {
	return strings.Trim(s, "\x00") == ""
}

// need is how many blocks that many bytes need.
func need(bytes uint64) uint64 {
	return (bytes + api.BlockSize - 1) / api.BlockSize
}

// filled is a text with bytes 0 behind it, up to a whole block.
func filled(s string) string {
	return s + zeros(int(need(uint64(len(s))))*api.BlockSize-len(s))
}

// blockOf is the n-th block of an image.
func blockOf(image string, n uint32) string {
	return image[int(n)*api.BlockSize:][:api.BlockSize]
}

// inside tells whether an extent is of an image of that many blocks. (Its end may be beyond what its numbers can tell.)
func inside(x api.Extent, blocks uint32) bool {
	return uint64(x.Start)+uint64(x.Len) <= uint64(blocks)
}

// has tells whether a block is of an extent.
func has(x api.Extent, block uint32) bool {
	return block >= x.Start && block-x.Start < x.Len
}
