package num_test

import (
	"math/big"
	"math/rand"
	"testing"

	"pharos/api"
	"pharos/num"
)

// What num answers is held against the library's whole numbers of any size.

// number is the one with these digits.
func number(digits string) *big.Int {
	n, is := new(big.Int).SetString(digits, 10)
	if !is {
		panic("no number: " + digits)
	}
	return n
}

// prime is p, written out.
func prime() *big.Int {
	return number("57896044618658097711785492504343953926634992332820282019728792003956564819949")
}

// power is 2^n + more.
func power(n uint, more int64) *big.Int {
	x := new(big.Int).Lsh(big.NewInt(1), n)
	return x.Add(x, big.NewInt(more))
}

// mod is n modulo p.
func mod(n *big.Int) *big.Int {
	return new(big.Int).Mod(n, prime())
}

// text is the 32 bytes of n, the lowest first.
func text(n *big.Int) string {
	var high, low [32]byte
	n.FillBytes(high[:])
	for i, b := range high {
		low[31-i] = b
	}
	return string(low[:])
}

// of is the Elem of n's bytes.
func of(t testing.TB, n *big.Int) num.Elem {
	t.Helper()
	a, e := num.Of(text(n))
	if e != api.OK {
		t.Fatalf("Of(%v): %v", n, e)
	}
	return a
}

// is demands that a is n modulo p, by its bytes.
func is(t testing.TB, what string, a num.Elem, n *big.Int) {
	t.Helper()
	if got, want := a.Bytes(), text(mod(n)); got != want {
		t.Fatalf("%s: % x, want % x", what, got, want)
	}
}

// edges are numbers of 256 bits at which a carry, a borrow or a step of p comes or does not.
func edges() []*big.Int {
	var l []*big.Int
	add := func(n *big.Int) {
		for more := int64(-2); more <= 2; more++ {
			x := new(big.Int).Add(n, big.NewInt(more))
			if x.Sign() >= 0 && x.BitLen() <= 256 {
				l = append(l, x)
			}
		}
	}
	p := prime()
	for _, n := range []int64{0, 19, 38, 1 << 32} {
		add(big.NewInt(n))
	}
	add(p)
	add(new(big.Int).Lsh(p, 1))
	add(new(big.Int).Rsh(p, 1))
	add(power(255, 0))
	add(power(256, 0))
	for which := range 16 { // each word all ones or all zeros
		n := new(big.Int)
		for i := range 4 {
			if which>>i&1 == 1 {
				n.Add(n, new(big.Int).Lsh(power(64, -1), uint(64*i)))
			}
		}
		add(n)
	}
	for i := uint(64); i < 256; i += 64 {
		add(power(i, 0))
		add(power(i-1, 0))
	}
	return l
}

// drawn is a number of 256 bits, of which a quarter has words that are all ones or all zeros.
func drawn(r *rand.Rand) *big.Int {
	n := new(big.Int)
	for range 4 {
		word := new(big.Int).SetUint64(r.Uint64())
		switch r.Intn(8) {
		case 0:
			word.SetUint64(0)
		case 1:
			word.SetUint64(1<<64 - 1)
		}
		n.Lsh(n, 64).Add(n, word)
	}
	return n
}

// some are the edges and as many drawn ones, always the same.
func some(count int) []*big.Int {
	l := edges()
	r := rand.New(rand.NewSource(6))
	for range count {
		l = append(l, drawn(r))
	}
	return l
}
