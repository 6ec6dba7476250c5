package mont_test

import (
	"encoding/hex"
	"math/big"
	"math/rand"
	"strings"
	"testing"

	"pharos/api"
	"pharos/mont"
)

// What mont answers is held against points with both coordinates, of whole numbers of any size: they are added by the line that goes through both, and have no ladder.

// prime is p; order is how many times the base point makes nothing.
var (
	prime = power(255, -19)
	order = func() *big.Int {
		n, is := new(big.Int).SetString("27742317777372353535851937790883648493", 10)
		if !is {
			panic("no number")
		}
		return n.Add(n, power(252, 0))
	}()
)

// bend is the curve's 486662.
var bend = big.NewInt(486662)

// power is 2^n + more.
func power(n uint, more int64) *big.Int {
	x := new(big.Int).Lsh(big.NewInt(1), n)
	return x.Add(x, big.NewInt(more))
}

// small is n.
func small(n int64) *big.Int {
	return big.NewInt(n)
}

func add(a, b *big.Int) *big.Int { return reduce(new(big.Int).Add(a, b)) }
func sub(a, b *big.Int) *big.Int { return reduce(new(big.Int).Sub(a, b)) }
func mul(a, b *big.Int) *big.Int { return reduce(new(big.Int).Mul(a, b)) }

// reduce is n modulo p.
func reduce(n *big.Int) *big.Int {
	return n.Mod(n, prime)
}

// over is a divided by b, which is not 0.
func over(a, b *big.Int) *big.Int {
	return mul(a, new(big.Int).ModInverse(b, prime))
}

// spot is a point; nil is that which adds nothing.
type spot struct{ x, y *big.Int }

// curve is scale y^2 = x^3 + 486662 x^2 + x: the curve itself, if scale has a root, else its twist.
type curve struct{ scale *big.Int }

// height is x^3 + 486662 x^2 + x.
func height(x *big.Int) *big.Int {
	return mul(x, add(mul(x, add(x, bend)), small(1)))
}

// through is a curve, and the point of it whose first coordinate is x; its second one is 1 by the choice of the scale, or 0.
func through(x *big.Int) (curve, *spot) {
	x = new(big.Int).Mod(x, prime)
	h := height(x)
	if h.Sign() == 0 {
		return curve{small(1)}, &spot{x, small(0)}
	}
	return curve{h}, &spot{x, small(1)}
}

// isTwist tells whether the points with that first coordinate are those of the twist.
func isTwist(x *big.Int) bool {
	return big.Jacobi(height(new(big.Int).Mod(x, prime)), prime) < 0
}

// plus is the sum of two points.
func (c curve) plus(a, b *spot) *spot {
	if a == nil {
		return b
	}
	if b == nil {
		return a
	}
	var slope *big.Int
	switch {
	case a.x.Cmp(b.x) != 0:
		slope = over(sub(b.y, a.y), sub(b.x, a.x))
	case a.y.Cmp(b.y) != 0 || a.y.Sign() == 0:
		return nil
	default:
		up := add(mul(a.x, add(mul(small(3), a.x), mul(small(2), bend))), small(1))
		slope = over(up, mul(mul(small(2), c.scale), a.y))
	}
	x := sub(sub(sub(mul(c.scale, mul(slope, slope)), bend), a.x), b.x)
	return &spot{x, sub(mul(slope, sub(a.x, x)), a.y)}
}

// times is n times a point.
func (c curve) times(n *big.Int, a *spot) *spot {
	var sum *spot
	for i := n.BitLen() - 1; i >= 0; i-- {
		sum = c.plus(sum, sum)
		if n.Bit(i) != 0 {
			sum = c.plus(sum, a)
		}
	}
	return sum
}

// multiple is the first coordinate of n times the point with the first coordinate x; 0, if there is none.
func multiple(n, x *big.Int) *big.Int {
	c, p := through(x)
	if p = c.times(n, p); p == nil {
		return small(0)
	}
	return p.x
}

// number is what a secret counts as: its bits 3 to 253, and bit 254.
func number(secret string) *big.Int {
	n := whole(secret)
	n.Rsh(n, 3)
	n.Mod(n, power(251, 0))
	n.Lsh(n, 3)
	return n.Add(n, power(254, 0))
}

// first is the first coordinate that a public key is.
func first(public string) *big.Int {
	n := whole(public)
	return reduce(n.Mod(n, power(255, 0)))
}

// want demands that Shared answers as the model does.
func want(t testing.TB, secret, public string) {
	t.Helper()
	s, e := text(multiple(number(secret), first(public))), api.OK
	if s == text(small(0)) {
		s, e = "", api.ErrWeak
	}
	is(t, secret, public, s, e)
}

// is demands that Shared answers s and e.
func is(t testing.TB, secret, public, s string, e api.Errno) {
	t.Helper()
	if got, err := mont.Shared(secret, public); got != s || err != e {
		t.Fatalf("Shared(%x, %x): %x %v, want %x %v", secret, public, got, err, s, e)
	}
}

// shared is Shared's answer, which must be one.
func shared(t testing.TB, secret, public string) string {
	t.Helper()
	s, e := mont.Shared(secret, public)
	if e != api.OK {
		t.Fatalf("Shared(%x, %x): %v", secret, public, e)
	}
	return s
}

// public is Public's answer, which must be one.
func public(t testing.TB, secret string) string {
	t.Helper()
	s, e := mont.Public(secret)
	if e != api.OK {
		t.Fatalf("Public(%x): %v", secret, e)
	}
	return s
}

// text is n in 32 bytes, the lowest first.
func text(n *big.Int) string {
	return turned(string(n.FillBytes(make([]byte, 32))))
}

// whole is the number that bytes are, the lowest first.
func whole(s string) *big.Int {
	return new(big.Int).SetBytes([]byte(turned(s)))
}

// turned are the bytes, the last one first.
func turned(s string) string {
	b := []byte(s)
	for i, j := 0, len(b)-1; i < j; i, j = i+1, j-1 {
		b[i], b[j] = b[j], b[i]
	}
	return string(b)
}

// flip is s with that bit turned.
func flip(s string, bit int) string {
	b := []byte(s)
	b[bit/8] ^= 1 << (bit % 8)
	return string(b)
}

// of are the bytes that these digits say.
func of(digits string) string {
	b, err := hex.DecodeString(digits)
	if err != nil {
		panic(err)
	}
	return string(b)
}

// drawn are 32 bytes.
func drawn(r *rand.Rand) string {
	b := make([]byte, 32)
	r.Read(b)
	return string(b)
}

// rep is n times one byte.
func rep(c byte, n int) string {
	return strings.Repeat(string([]byte{c}), n)
}
