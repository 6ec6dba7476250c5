package aead_test

import (
	"math/rand"
	"strings"
	"sync"
	"testing"

	"pharos/aead"
	"pharos/api"
)

// The chapter's examples of Seal and Open.
func TestExampleSeal(t *testing.T) {
	key, nonce := strings.Repeat("k", 32), strings.Repeat("n", 12)
	c, e := aead.Seal(key, nonce, "ad", "abc")
	if len(c) != 19 || e != api.OK {
		t.Fatalf("%x, %v", c, e)
	}
	if s, e := aead.Open(key, nonce, "ad", c); s != "abc" || e != api.OK {
		t.Errorf("%x, %v", s, e)
	}
	if s, e := aead.Open(key, nonce, "something else", c); s != "" || e != api.ErrOpen {
		t.Errorf("beside something else: %x, %v", s, e)
	}
	if c, e := aead.Seal(key[:31], nonce, "ad", "abc"); c != "" || e != api.ErrArg {
		t.Errorf("by a key of 31 bytes: %x, %v", c, e)
	}
	if c, e := aead.Seal(key, nonce, "ad", strings.Repeat("x", 65537)); c != "" || e != api.ErrLong {
		t.Errorf("of 65,537 bytes: %d bytes, %v", len(c), e)
	}
}

// P13.3, P13.4, W6: the text of RFC 8439, 2.8.2.
func TestSealKnown(t *testing.T) {
	key, nonce := rising(0x80, 0x9f), "\x07\x00\x00\x00"+rising(0x40, 0x47)
	ad := hexed(t, "50515253c0c1c2c3c4c5c6c7")
	s := "Ladies and Gentlemen of the class of '99: If I could offer you only one tip for the future, sunscreen would be it."
	want := hexed(t, `d31a8d34648e60db7b86afbc53ef7ec2a4aded51296e08fea9e2b5a736ee62d6
		3dbea45e8ca9671282fafb69da92728b1a71de0a9e060b2905d6a5b67ecd3b36
		92ddbd7f2d778b8c9803aee328091b58fab324e4fad675945585808b4831d7bc
		3ff4def08e4b7a9de576d26586cec64b6116
		1ae10b594f09e26a7e902ecbd0600691`)
	if c := sealed(t, key, nonce, ad, s); c != want {
		t.Errorf("%x", c)
	}
	if got, e := aead.Open(key, nonce, ad, want); got != s || e != api.OK {
		t.Errorf("%q, %v", got, e)
	}
}

// P13.3: every length of the edges as the text with every one beside it.
func TestSeal(t *testing.T) {
	r := rand.New(rand.NewSource(141))
	for _, n := range sizes() {
		for _, m := range sizes() {
			sealIs(t, drawn(r, 32), drawn(r, 12), drawn(r, m), drawn(r, n))
			sealIs(t, full(r, 32), full(r, 12), full(r, m), full(r, n))
		}
	}
	for n := range 300 {
		sealIs(t, drawn(r, 32), drawn(r, 12), drawn(r, r.Intn(40)), drawn(r, n))
		sealIs(t, drawn(r, 32), drawn(r, 12), drawn(r, n), drawn(r, r.Intn(40)))
	}
}

// P13.3, P13.4: texts up to MaxSeal bytes, as the text and beside it; all is as below the limit.
func TestSealLongest(t *testing.T) {
	r := rand.New(rand.NewSource(142))
	key, nonce := drawn(r, 32), drawn(r, 12)
	for _, n := range []int{0, 65535, 65536} {
		for _, m := range []int{0, 65535, 65536} {
			ad, s := drawn(r, m), drawn(r, n)
			sealIs(t, key, nonce, ad, s)
			c := sealed(t, key, nonce, ad, s)
			if got, e := aead.Open(key, nonce, ad, c); got != s || e != api.OK {
				t.Fatalf("Open of %d bytes beside %d: %d bytes, %v", n, m, len(got), e)
			}
			for _, i := range []int{0, 8*len(c) - 129, 8*len(c) - 128, 8*len(c) - 1} {
				if i >= 0 && openIs(t, key, nonce, ad, flipped(c, i)) != api.ErrOpen {
					t.Fatalf("the bit %d of %d bytes", i, len(c))
				}
			}
		}
	}
}

// P13.3: what is sealed is the text exclusive or the blocks from 1 on, each once, and the tag by the block 0.
func TestSealIsBlocksAndTag(t *testing.T) {
	r := rand.New(rand.NewSource(143))
	key, nonce := drawn(r, 32), drawn(r, 12)
	ad, s := drawn(r, 16), strings.Repeat("\x00", 65536)
	c := sealed(t, key, nonce, ad, s)
	for n := range 1024 {
		block, _ := aead.Block(key, nonce, uint32(n+1))
		if c[64*n:64*n+64] != block {
			t.Fatalf("the block %d", n+1)
		}
	}
	first, _ := aead.Block(key, nonce, 0)
	ends := "\x10\x00\x00\x00\x00\x00\x00\x00" + "\x00\x00\x01\x00\x00\x00\x00\x00"
	if tag := tagged(t, first[:32], ad+c[:65536]+ends); c[65536:] != tag {
		t.Errorf("the tag: %x, want %x", c[65536:], tag)
	}
}

// P13.3, P13.4, R2: a key that has not 32 bytes, a nonce that has not 12: nothing beside the error, and it is the first one.
func TestSealAndOpenRefuseKeys(t *testing.T) {
	long := strings.Repeat("x", 65553)
	for _, x := range wrong() {
		for _, ad := range []string{"", "ad", long[:65536], long[:65537]} {
			for _, s := range []string{"", "short", long[:16], long[:65536], long[:65537], long} {
				if c, e := aead.Seal(x[0], x[1], ad, s); c != "" || e != api.ErrArg {
					t.Fatalf("Seal, a key of %d bytes, a nonce of %d: %d bytes, %v", len(x[0]), len(x[1]), len(c), e)
				}
				if c, e := aead.Open(x[0], x[1], ad, s); c != "" || e != api.ErrArg {
					t.Fatalf("Open, a key of %d bytes, a nonce of %d: %d bytes, %v", len(x[0]), len(x[1]), len(c), e)
				}
			}
		}
	}
}

// P13.3, R2: above MaxSeal bytes, as the text, beside it, or both.
func TestSealTooLong(t *testing.T) {
	key, nonce := strings.Repeat("k", 32), strings.Repeat("n", 12)
	long := strings.Repeat("x", 1<<20)
	for _, x := range [][2]int{{0, 65537}, {65537, 0}, {65537, 65537}, {65536, 65537}, {65537, 65536}, {0, 65552}, {5, 1 << 20}, {1 << 20, 5}, {1 << 17, 1 << 17}} {
		if c, e := aead.Seal(key, nonce, long[:x[0]], long[:x[1]]); c != "" || e != api.ErrLong {
			t.Errorf("%d bytes beside %d: %d bytes, %v", x[1], x[0], len(c), e)
		}
	}
}

// P13.4, R2: above MaxSeal bytes beside, or above MaxSeal and 16; this ahead of what is too short or does not open.
func TestOpenTooLong(t *testing.T) {
	key, nonce := strings.Repeat("k", 32), strings.Repeat("n", 12)
	long := strings.Repeat("x", 1<<20)
	for _, x := range [][2]int{{0, 65553}, {65537, 0}, {65537, 15}, {65537, 16}, {65537, 65553}, {65536, 65553}, {65552, 100}, {5, 1 << 20}, {1 << 20, 5}} {
		if s, e := aead.Open(key, nonce, long[:x[0]], long[:x[1]]); s != "" || e != api.ErrLong {
			t.Errorf("%d bytes beside %d: %d bytes, %v", x[1], x[0], len(s), e)
		}
	}
	for _, x := range [][2]int{{0, 65552}, {65536, 16}, {65536, 65552}, {65536, 15}, {65536, 0}} {
		if s, e := aead.Open(key, nonce, long[:x[0]], long[:x[1]]); s != "" || e != api.ErrOpen {
			t.Errorf("%d bytes beside %d: %d bytes, %v", x[1], x[0], len(s), e)
		}
	}
}

// P13.4: fewer than 16 bytes do not open, though they are the beginning or the end of what does; 16 do, if they are the tag of no byte.
func TestOpenShort(t *testing.T) {
	r := rand.New(rand.NewSource(144))
	for _, m := range sizes() {
		key, nonce, ad := drawn(r, 32), drawn(r, 12), drawn(r, m)
		c := sealed(t, key, nonce, ad, "")
		if s, e := aead.Open(key, nonce, ad, c); s != "" || e != api.OK {
			t.Errorf("16 bytes: %x, %v", s, e)
		}
		for n := range 16 {
			for _, part := range []string{c[:n], c[16-n:], strings.Repeat("\x00", n)} {
				if s, e := aead.Open(key, nonce, ad, part); s != "" || e != api.ErrOpen {
					t.Errorf("%d bytes: %x, %v", n, s, e)
				}
			}
		}
		for i := range 8 * 16 {
			if openIs(t, key, nonce, ad, flipped(c, i)) != api.ErrOpen {
				t.Fatalf("the bit %d of 16 bytes", i)
			}
		}
	}
}

// P13.5: Open of Seal is the text.
func TestOpenOfSeal(t *testing.T) {
	r := rand.New(rand.NewSource(145))
	for _, n := range sizes() {
		for _, m := range sizes() {
			key, nonce, ad, s := drawn(r, 32), drawn(r, 12), full(r, m), full(r, n)
			c := sealed(t, key, nonce, ad, s)
			if got, e := aead.Open(key, nonce, ad, c); got != s || e != api.OK {
				t.Fatalf("%d bytes beside %d: %d bytes, %v", n, m, len(got), e)
			}
		}
	}
}

// P13.5: whatever bit is turned, of what was sealed, beside it, of the key or of the nonce: it does not open.
func TestTurned(t *testing.T) {
	r := rand.New(rand.NewSource(146))
	for _, x := range [][2]int{{0, 0}, {0, 1}, {1, 0}, {5, 3}, {16, 16}, {12, 64}, {17, 65}, {40, 33}} {
		key, nonce, ad, s := drawn(r, 32), drawn(r, 12), drawn(r, x[0]), drawn(r, x[1])
		c := sealed(t, key, nonce, ad, s)
		refused := func(what string, i int, e api.Errno) {
			if e != api.ErrOpen {
				t.Fatalf("%d bytes beside %d: the bit %d of %s: %v", len(s), len(ad), i, what, e)
			}
		}
		for i := range 8 * len(c) {
			refused("what was sealed", i, openIs(t, key, nonce, ad, flipped(c, i)))
		}
		for i := range 8 * len(ad) {
			refused("what is beside", i, openIs(t, key, nonce, flipped(ad, i), c))
		}
		for i := range 8 * len(key) {
			refused("the key", i, openIs(t, flipped(key, i), nonce, ad, c))
		}
		for i := range 8 * len(nonce) {
			refused("the nonce", i, openIs(t, key, flipped(nonce, i), ad, c))
		}
		if openIs(t, key, nonce, ad, c) != api.OK {
			t.Fatal("what was not turned does not open")
		}
	}
}

// P13.5: each byte, turned into each other one.
func TestTurnedBytes(t *testing.T) {
	key, nonce := strings.Repeat("\xe9", 32), strings.Repeat("\x80", 12)
	ad, s := "beside\xff", "text\xfe\xff"
	c := sealed(t, key, nonce, ad, s)
	other := func(s string, i, x int) string {
		b := []byte(s)
		b[i] = byte(x)
		return string(b)
	}
	for x := range 256 {
		for i := range len(c) {
			if e := openIs(t, key, nonce, ad, other(c, i, x)); (e == api.OK) != (c[i] == byte(x)) {
				t.Fatalf("the byte %d of what was sealed is %d: %v", i, x, e)
			}
		}
		for i := range len(ad) {
			if e := openIs(t, key, nonce, other(ad, i, x), c); (e == api.OK) != (ad[i] == byte(x)) {
				t.Fatalf("the byte %d of what is beside is %d: %v", i, x, e)
			}
		}
	}
}

// P13.4: bytes that are wanting, that are too many, or that went from one text to the other: it does not open.
func TestMoved(t *testing.T) {
	r := rand.New(rand.NewSource(147))
	for _, n := range []int{0, 1, 15, 16, 17, 64, 80} {
		for _, m := range []int{0, 1, 15, 16, 17, 32} {
			key, nonce, ad := drawn(r, 32), drawn(r, 12), drawn(r, m)
			c := sealed(t, key, nonce, ad, drawn(r, n))
			body, tag := c[:n], c[n:]
			for _, x := range [][2]string{
				{ad, c[1:]}, {ad, c[:len(c)-1]}, {ad, c + "\x00"}, {ad, "\x00" + c}, {ad, body + "\x00" + tag},
				{ad + "\x00", c}, {"\x00" + ad, c}, {ad + c[:1], c[1:]}, {ad, tag + body}, {ad, c + tag},
				{filled(ad), c}, {ad, filled(body) + tag}, {ad + body, tag}, {"", ad + c}, {body, ad + tag}, {ad, tag},
			} {
				if x == [2]string{ad, c} { // nothing moved, as there was nothing to move
					continue
				}
				if e := openIs(t, key, nonce, x[0], x[1]); e != api.ErrOpen {
					t.Fatalf("%d bytes beside %d: %d beside %d: %v", n, m, len(x[1])-16, len(x[0]), e)
				}
			}
		}
	}
}

// R6: a call's answer does not hang on the calls before or beside it.
func TestNothingIsShared(t *testing.T) {
	var all sync.WaitGroup
	for k := range 8 {
		r := rand.New(rand.NewSource(int64(k)))
		key, nonce, ad, s := drawn(r, 32), drawn(r, 12), drawn(r, 10*k), drawn(r, 50*k)
		want, _ := modelSeal(key, nonce, ad, s)
		block, tag := modelBlock(key, nonce, uint32(k)), modelTag(key, s)
		all.Go(func() {
			for range 200 {
				c, e := aead.Seal(key, nonce, ad, s)
				o, f := aead.Open(key, nonce, ad, want)
				b, g := aead.Block(key, nonce, uint32(k))
				x, h := aead.Tag(key, s)
				if e != api.OK || f != api.OK || g != api.OK || h != api.OK || c != want || o != s || b != block || x != tag {
					t.Error("another answer")
				}
			}
		})
	}
	all.Wait()
}
