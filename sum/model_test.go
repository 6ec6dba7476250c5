package sum

import (
	"encoding/binary"
	"math/rand"
	"testing"
)

// model is the chapter's section Words, with constants that are worked out as roots; it knows nothing of the package.
type model struct{ h, k []uint32 }

func newModel() model {
	var m model
	for i, p := range primes(64) {
		m.k = append(m.k, root(p, 3))
		if i < 8 {
			m.h = append(m.h, root(p, 2))
		}
	}
	return m
}

// right is x turned to the right.
func right(x uint32, n int) uint32 {
	return x>>n | x<<(32-n)
}

// wide are W(0) to W(63) of 64 bytes.
func wide(block []byte) []uint32 {
	var w []uint32
	for i := range 16 {
		w = append(w, binary.BigEndian.Uint32(block[4*i:]))
	}
	for i := 16; i < 64; i++ {
		x, y := w[i-15], w[i-2]
		s := right(x, 7) ^ right(x, 18) ^ x>>3
		t := right(y, 17) ^ right(y, 19) ^ y>>10
		w = append(w, w[i-16]+s+w[i-7]+t)
	}
	return w
}

// stir are the words H(0) to H(7) behind one more block.
func (m model) stir(l []uint32, block []byte) []uint32 {
	a, b, c, d, e, f, g, h := l[0], l[1], l[2], l[3], l[4], l[5], l[6], l[7]
	for i, w := range wide(block) {
		u := h + (right(e, 6) ^ right(e, 11) ^ right(e, 25)) + ((e & f) ^ (^e & g)) + m.k[i] + w
		v := (right(a, 2) ^ right(a, 13) ^ right(a, 22)) + ((a & b) ^ (a & c) ^ (b & c))
		h = g
		g = f
		f = e
		e = d + u
		d = c
		c = b
		b = a
		a = u + v
	}
	return []uint32{l[0] + a, l[1] + b, l[2] + c, l[3] + d, l[4] + e, l[5] + f, l[6] + g, l[7] + h}
}

// digest is that of s.
func (m model) digest(s string) string {
	b := append([]byte(s), 128)
	for len(b)%64 != 56 {
		b = append(b, 0)
	}
	b = binary.BigEndian.AppendUint64(b, uint64(len(s))*8)
	h := m.h
	for ; len(b) > 0; b = b[64:] {
		h = m.stir(h, b[:64])
	}
	var out []byte
	for _, w := range h {
		out = binary.BigEndian.AppendUint32(out, w)
	}
	return string(out)
}

// tag is that of s by a key.
func (m model) tag(key, s string) string {
	if len(key) > 64 {
		key = m.digest(key)
	}
	for len(key) < 64 {
		key += "\x00"
	}
	var out, in []byte
	for i := range 64 {
		out = append(out, key[i]^92)
		in = append(in, key[i]^54)
	}
	return m.digest(string(out) + m.digest(string(in)+s))
}

// chance are n bytes.
func chance(r *rand.Rand, n int) string {
	b := make([]byte, n)
	r.Read(b)
	return string(b)
}

// P11.1, P11.2: every length up to five blocks, and drawn bytes of drawn lengths, in one and in two pieces, as the chapter's words have it.
func TestModel(t *testing.T) {
	m, r := newModel(), rand.New(rand.NewSource(111))
	for n := range 1321 {
		if n > 320 {
			n = r.Intn(2000)
		}
		s := chance(r, n)
		want := m.digest(s)
		at := r.Intn(n + 1)
		h := New()
		h.Add(s[:at])
		h.Add(s[at:])
		if Of(s) != want || h.Sum() != want {
			t.Fatalf("%d bytes, cut at %d: %x and %x, want %x", n, at, Of(s), h.Sum(), want)
		}
	}
}

// P11.3: tags by keys of every length up to three blocks, as the chapter's words have it.
func TestModelOfTags(t *testing.T) {
	m, r := newModel(), rand.New(rand.NewSource(124))
	for n := range 193 {
		for range 5 {
			key, s := chance(r, n), chance(r, r.Intn(200))
			if got, want := Tag(key, s), m.tag(key, s); got != want {
				t.Fatalf("a key of %d bytes, a text of %d: %x, want %x", n, len(s), got, want)
			}
		}
	}
}
