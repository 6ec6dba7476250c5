package sha

import (
	"math/big"
	"testing"
)

// primes are the first n of them.
func primes(n int) []int64 {
	var l []int64
next:
	for p := int64(2); len(l) < n; p++ {
		for _, q := range l {
			if p%q == 0 {
				continue next
			}
		}
		l = append(l, p)
	}
	return l
}

// root is what the first 64 bits behind the point are of the root of n, square (2) or cube (3): of the greatest whole number that by its power does not pass n times a power of 2.
func root(n int64, power uint) uint64 {
	most := new(big.Int).Lsh(big.NewInt(n), 64*power)
	r := new(big.Int)
	for bit := 72; bit >= 0; bit-- {
		try := new(big.Int).SetBit(r, bit, 1)
		if new(big.Int).Exp(try, big.NewInt(int64(power)), nil).Cmp(most) <= 0 {
			r = try
		}
	}
	return new(big.Int).And(r, new(big.Int).SetUint64(1<<64-1)).Uint64()
}

// P10.1: the constants are the cube roots of the first 80 primes.
func TestConstants(t *testing.T) {
	for i, p := range primes(80) {
		if want := root(p, 3); constants[i] != want {
			t.Errorf("K(%d), the cube root of %d: %016x, want %016x", i, p, constants[i], want)
		}
	}
	if len(constants) != 80 || primes(80)[79] != 409 {
		t.Errorf("%d constants", len(constants))
	}
}

// P10.1: the words to begin with are the square roots of the first eight.
func TestBegin(t *testing.T) {
	for i, p := range primes(8) {
		if want := root(p, 2); begin[i] != want {
			t.Errorf("H(%d), the square root of %d: %016x, want %016x", i, p, begin[i], want)
		}
	}
	if len(begin) != 8 {
		t.Errorf("%d words", len(begin))
	}
}

// P10.1: behind as many bytes as may come, and more, stands a byte 128, as few bytes 0 as may be, and how many bits there are in 16 bytes.
func TestEnding(t *testing.T) {
	for _, near := range []uint64{0, 128, 256, 1 << 20, 1 << 29, 1 << 31, 1 << 32, 1 << 61, 1<<64 - 512} {
		for n := near; n < near+400; n++ {
			s := ending(n)
			if l := len(s); l < 17 || l > 144 || (n%128+uint64(l))%128 != 0 || s[0] != 128 {
				t.Fatalf("behind %d bytes stand %d: % x", n, l, s)
			}
			for i := 1; i < len(s)-16; i++ {
				if s[i] != 0 {
					t.Fatalf("behind %d bytes: % x", n, s)
				}
			}
			bits := new(big.Int).SetBytes([]byte(s[len(s)-16:]))
			if want := new(big.Int).Lsh(new(big.Int).SetUint64(n), 3); bits.Cmp(want) != 0 {
				t.Fatalf("%d bytes: told as %v bits", n, bits)
			}
		}
	}
}
