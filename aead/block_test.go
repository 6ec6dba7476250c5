package aead_test

import (
	"math/rand"
	"strings"
	"testing"

	"pharos/aead"
	"pharos/api"
)

// numbers are those of blocks: the first ones, the highest one, and those at which a byte of them is carried.
func numbers() []uint32 {
	l := []uint32{0, 1, 2, 3, 127, 128, 1<<31 - 1, 1 << 31, 1<<31 + 1, 1<<32 - 2, 1<<32 - 1, 0x01020304, 0x80ff7f00}
	for _, bits := range []int{8, 16, 24} {
		l = append(l, 1<<bits-1, 1<<bits, 1<<bits+1)
	}
	return l
}

// blockIs demands the model's block.
func blockIs(t testing.TB, key, nonce string, n uint32) {
	t.Helper()
	got, e := aead.Block(key, nonce, n)
	if want := modelBlock(key, nonce, n); e != api.OK || got != want {
		t.Fatalf("the block %d: %x, %v; want %x", n, got, e, want)
	}
}

// The chapter's example of Block.
func TestExampleBlock(t *testing.T) {
	zero := strings.Repeat("\x00", 32)
	b, e := aead.Block(zero, zero[:12], 0)
	if e != api.OK || len(b) != 64 || b[:4] != string([]byte{118, 184, 224, 173}) {
		t.Errorf("%x, %v", b, e)
	}
}

// P13.1, W6: the blocks of RFC 8439, 2.3.2 and appendix A.1.
func TestBlockKnown(t *testing.T) {
	zero := strings.Repeat("\x00", 32)
	for i, x := range []struct {
		key, nonce string
		n          uint32
		want       string
	}{
		{rising(0, 31), "\x00\x00\x00\x09\x00\x00\x00\x4a\x00\x00\x00\x00", 1,
			`10f1e7e4d13b5915500fdd1fa32071c4c7d1f4c733c068030422aa9ac3d46c4e
			d2826446079faa0914c2d705d98b02a2b5129cd1de164eb9cbd083e8a2503c4e`},
		{zero, zero[:12], 0,
			`76b8e0ada0f13d90405d6ae55386bd28bdd219b8a08ded1aa836efcc8b770dc7
			da41597c5157488d7724e03fb8d84a376a43b8f41518a11cc387b669b2ee6586`},
		{zero, zero[:12], 1,
			`9f07e7be5551387a98ba977c732d080dcb0f29a048e3656912c6533e32ee7aed
			29b721769ce64e43d57133b074d839d531ed1f28510afb45ace10a1f4b794d6f`},
		{zero[:31] + "\x01", zero[:12], 1,
			`3aeb5224ecf849929b9d828db1ced4dd832025e8018b8160b82284f3c949aa5a
			8eca00bbb4a73bdad192b5c42f73f2fd4e273644c8b36125a64addeb006c13a0`},
		{"\x00\xff" + zero[:30], zero[:12], 2,
			`72d54dfbf12ec44b362692df94137f328fea8da73990265ec1bbbea1ae9af0ca
			13b25aa26cb4a648cb9b9d1be65b2c0924a66c54d545ec1b7374f4872e99f096`},
		{zero, zero[:11] + "\x02", 0,
			`c2c64d378cd536374ae204b9ef933fcd1a8b2288b3dfa49672ab765b54ee27c7
			8a970e0e955c14f3a88e741b97c286f75f8fc299e8148362fa198a39531bed6d`},
	} {
		if b, e := aead.Block(x.key, x.nonce, x.n); e != api.OK || b != hexed(t, x.want) {
			t.Errorf("%d: %x, %v", i, b, e)
		}
	}
}

// P13.1: drawn keys and nonces, and those full of bits, at every edge of the number.
func TestBlock(t *testing.T) {
	r := rand.New(rand.NewSource(131))
	for _, n := range numbers() {
		for range 50 {
			blockIs(t, drawn(r, 32), drawn(r, 12), n)
			blockIs(t, full(r, 32), full(r, 12), n)
			blockIs(t, drawn(r, 32), drawn(r, 12), r.Uint32())
		}
		ones := strings.Repeat("\xff", 32)
		blockIs(t, ones, ones[:12], n)
		blockIs(t, rising(0, 31), rising(32, 43), n)
		blockIs(t, rising(128, 159), rising(244, 255), n)
	}
}

// P13.1: each bit of key, nonce and number counts, and where it stands.
func TestBlockEachBit(t *testing.T) {
	zero := strings.Repeat("\x00", 32)
	seen := map[string]bool{}
	note := func(key, nonce string, n uint32) {
		blockIs(t, key, nonce, n)
		b, _ := aead.Block(key, nonce, n)
		seen[b] = true
	}
	for i := range 8 * 32 {
		note(flipped(zero, i), zero[:12], 0)
	}
	for i := range 8 * 12 {
		note(zero, flipped(zero[:12], i), 0)
	}
	for i := range 32 {
		note(zero, zero[:12], 1<<i)
	}
	if len(seen) != 8*32+8*12+32 {
		t.Errorf("%d blocks", len(seen))
	}
}

// wrong are keys and nonces at least one of which is no such.
func wrong() [][2]string {
	long := strings.Repeat("k", 100)
	var l [][2]string
	for _, key := range []int{0, 1, 12, 16, 31, 32, 33, 48, 64} {
		for _, nonce := range []int{0, 1, 8, 11, 12, 13, 16, 24, 32} {
			if key != 32 || nonce != 12 {
				l = append(l, [2]string{long[:key], long[:nonce]})
			}
		}
	}
	// As many letters as are asked for, but more bytes; and all the bytes, but in the other one.
	l = append(l, [2]string{strings.Repeat("é", 32), long[:12]}, [2]string{long[:32], strings.Repeat("é", 12)})
	return append(l, [2]string{long[:44], ""}, [2]string{long[:12], long[:32]}, [2]string{"", long[:44]})
}

// P13.1, R2: a key that has not 32 bytes, a nonce that has not 12: nothing beside the error.
func TestBlockRefused(t *testing.T) {
	for _, x := range wrong() {
		for _, n := range numbers() {
			if b, e := aead.Block(x[0], x[1], n); e != api.ErrArg || b != "" {
				t.Errorf("a key of %d bytes, a nonce of %d: %d bytes, %v", len(x[0]), len(x[1]), len(b), e)
			}
		}
	}
	blockIs(t, strings.Repeat("é", 16), strings.Repeat("é", 6), 7)
}
