package order_test

import (
	"math/big"
	"math/rand"
	"testing"

	"pharos/api"
	"pharos/order"
)

// What order answers is held against the library's whole numbers of any size.

// whole is L: 2^252 and what the document adds to it.
var whole = func() *big.Int {
	n, is := new(big.Int).SetString("27742317777372353535851937790883648493", 10)
	if !is {
		panic("no number")
	}
	return n.Add(n, power(252, 0))
}()

// power is 2^n + more.
func power(n uint, more int64) *big.Int {
	x := new(big.Int).Lsh(big.NewInt(1), n)
	return x.Add(x, big.NewInt(more))
}

// mod is n modulo L.
func mod(n *big.Int) *big.Int {
	return new(big.Int).Mod(n, whole)
}

// text is n in that many bytes, the lowest first.
func text(n *big.Int, size int) string {
	b := n.FillBytes(make([]byte, size))
	for i, j := 0, size-1; i < j; i, j = i+1, j-1 {
		b[i], b[j] = b[j], b[i]
	}
	return string(b)
}

// of is the Scalar of n's bytes, as few as may be.
func of(t testing.TB, n *big.Int) order.Scalar {
	t.Helper()
	size := 32
	if n.BitLen() > 256 {
		size = 64
	}
	a, e := order.Of(text(n, size))
	if e != api.OK {
		t.Fatalf("Of(%v): %v", n, e)
	}
	return a
}

// is demands that a is n modulo L, by its bytes.
func is(t testing.TB, what string, a order.Scalar, n *big.Int) {
	t.Helper()
	if got, want := a.Bytes(), text(mod(n), 32); got != want {
		t.Fatalf("%s: % x, want % x", what, got, want)
	}
}

// edges are numbers of that many bits at the most at which a carry, a borrow or a step of L comes or does not.
func edges(most int) []*big.Int {
	var l []*big.Int
	add := func(n *big.Int) {
		for more := int64(-2); more <= 2; more++ {
			x := new(big.Int).Add(n, big.NewInt(more))
			if x.Sign() >= 0 && x.BitLen() <= most {
				l = append(l, x)
			}
		}
	}
	for i := 0; i <= most; i += 32 {
		add(power(uint(i), 0))
	}
	for _, i := range []uint{252, 253, 255, 504, 511} {
		add(power(i, 0))
	}
	for k := range int64(17) {
		add(new(big.Int).Mul(whole, big.NewInt(k)))
	}
	for i := uint(4); i <= 260; i += 16 {
		add(new(big.Int).Lsh(whole, i))
	}
	add(new(big.Int).Mul(whole, whole))
	last := new(big.Int).Sub(power(uint(most), 0), mod(power(uint(most), 0)))
	add(last) // the greatest multiple of L that there is room for
	return l
}

// drawn is a number of that many bits at the most, of any length.
func drawn(r *rand.Rand, most int) *big.Int {
	n := new(big.Int).Rand(r, power(uint(most), 0))
	if r.Intn(3) == 0 {
		n.Rsh(n, uint(r.Intn(most)))
	}
	if r.Intn(3) == 0 {
		n.Sub(n, mod(n)) // a multiple of L, and a little
		n.Add(n, big.NewInt(int64(r.Intn(3))))
	}
	return n
}

// some are the edges, and that many drawn ones.
func some(most, n int) []*big.Int {
	r := rand.New(rand.NewSource(int64(most)))
	l := edges(most)
	for range n {
		l = append(l, drawn(r, most))
	}
	return l
}
