package sha

import (
	"encoding/binary"
	"math/rand"
	"testing"
)

// The model is the chapter's section Words, with constants that are worked out as roots; it knows nothing of the package.

// right is x turned to the right.
func right(x uint64, n int) uint64 {
	return x>>n | x<<(64-n)
}

// spread are W(0) to W(79) of 128 bytes.
func spread(block []byte) []uint64 {
	var w []uint64
	for i := range 16 {
		w = append(w, binary.BigEndian.Uint64(block[8*i:]))
	}
	for i := 16; i < 80; i++ {
		x, y := w[i-15], w[i-2]
		s := right(x, 1) ^ right(x, 8) ^ x>>7
		t := right(y, 19) ^ right(y, 61) ^ y>>6
		w = append(w, w[i-16]+s+w[i-7]+t)
	}
	return w
}

// stir are the words H(0) to H(7) behind one more block.
func stir(h, k []uint64, block []byte) []uint64 {
	x := append([]uint64(nil), h...) // a to h
	for i, w := range spread(block) {
		a, b, c, e, f, g := x[0], x[1], x[2], x[4], x[5], x[6]
		u := x[7] + (right(e, 14) ^ right(e, 18) ^ right(e, 41)) + ((e & f) ^ (^e & g)) + k[i] + w
		v := (right(a, 28) ^ right(a, 34) ^ right(a, 39)) + ((a & b) ^ (a & c) ^ (b & c))
		x = append([]uint64{u + v}, x[:7]...)
		x[4] += u
	}
	for i := range x {
		x[i] += h[i]
	}
	return x
}

// model is the digest of s; h and k are the roots.
func model(h, k []uint64, s string) string {
	b := append([]byte(s), 128)
	for len(b)%128 != 112 {
		b = append(b, 0)
	}
	b = binary.BigEndian.AppendUint64(b, 0)
	b = binary.BigEndian.AppendUint64(b, uint64(len(s))*8)
	for ; len(b) > 0; b = b[128:] {
		h = stir(h, k, b[:128])
	}
	var out []byte
	for _, w := range h {
		out = binary.BigEndian.AppendUint64(out, w)
	}
	return string(out)
}

// P10.1: every length up to five blocks, and drawn bytes of drawn lengths in drawn pieces, as the chapter's words have it.
func TestModel(t *testing.T) {
	var h, k []uint64
	for i, p := range primes(80) {
		k = append(k, root(p, 3))
		if i < 8 {
			h = append(h, root(p, 2))
		}
	}
	r := rand.New(rand.NewSource(101))
	for n := range 1641 {
		if n > 640 {
			n = r.Intn(3000)
		}
		b := make([]byte, n)
		r.Read(b)
		s := string(b)
		at := r.Intn(n + 1)
		if got, want := Of(s[:at], s[at:]), model(h, k, s); got != want {
			t.Fatalf("%d bytes: %x, want %x", n, got, want)
		}
	}
}
