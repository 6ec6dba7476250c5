package sum

import (
	"math/big"
	"strings"
	"testing"
)

// primes are the first n of them.
func primes(n int) []int64 {
	var l []int64
next:
	for p := int64(2); len(l) < n; p++ {
		for _, q := range l {
			if p%q == 0 {
				continue next
			}
		}
		l = append(l, p)
	}
	return l
}

// root is what the first 32 bits behind the point are of the root of n, square (2) or cube (3): of the greatest whole number that by its power does not pass n times a power of 2.
func root(n int64, power uint) uint32 {
	most := new(big.Int).Lsh(big.NewInt(n), 32*power)
	r := new(big.Int)
	for bit := 40; bit >= 0; bit-- {
		try := new(big.Int).SetBit(r, bit, 1)
		if new(big.Int).Exp(try, big.NewInt(int64(power)), nil).Cmp(most) <= 0 {
			r = try
		}
	}
	return uint32(r.Uint64())
}

// P11.1: the constants are the cube roots of the first 64 primes.
func TestConstants(t *testing.T) {
	for i, p := range primes(64) {
		if want := root(p, 3); constants[i] != want {
			t.Errorf("K(%d), the cube root of %d: %08x, want %08x", i, p, constants[i], want)
		}
	}
	if len(constants) != 64 || primes(64)[63] != 311 {
		t.Errorf("%d constants", len(constants))
	}
}

// P11.1: the words to begin with are the square roots of the first eight.
func TestBegin(t *testing.T) {
	for i, p := range primes(8) {
		if want := root(p, 2); begin[i] != want {
			t.Errorf("H(%d), the square root of %d: %08x, want %08x", i, p, begin[i], want)
		}
	}
	if len(begin) != 8 {
		t.Errorf("%d words", len(begin))
	}
}

// P11.1: behind as many bytes as may come, and more, stands a byte 128, as few bytes 0 as may be, and how many bits there are in 8 bytes.
func TestEnding(t *testing.T) {
	var counts []uint64
	for n := range uint64(200) {
		counts = append(counts, n)
	}
	for _, big := range []uint64{1 << 29, 1<<31 - 1, 1 << 32, 1 << 40, 1<<61 - 1} {
		counts = append(counts, big-1, big, big-8, big-9)
	}
	for _, n := range counts {
		e := ending(n)
		if (n%64+uint64(len(e)))%64 != 0 || len(e) < 9 || len(e) > 72 {
			t.Fatalf("behind %d bytes: %d more", n, len(e))
		}
		zeros := strings.Repeat("\x00", len(e)-9)
		bits := new(big.Int).Mul(new(big.Int).SetUint64(n), big.NewInt(8)).FillBytes(make([]byte, 8))
		if want := "\x80" + zeros + string(bits); e != want {
			t.Fatalf("behind %d bytes: %x, want %x", n, e, want)
		}
	}
}

// P11.2: what is kept of all that came is less than a block, and what it waits in does not grow.
func TestLittleIsKept(t *testing.T) {
	h := New()
	for n := range 3000 {
		h.Add(strings.Repeat("x", n))
		if h.rest.Len() >= 64 || uint64(h.rest.Len()) != h.count%64 || h.rest.Cap() > 256 {
			t.Fatalf("behind %d bytes: %d wait in %d", h.count, h.rest.Len(), h.rest.Cap())
		}
	}
}
