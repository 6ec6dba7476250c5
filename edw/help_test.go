package edw_test

import (
	"encoding/hex"
	"math/big"
	"math/rand"
	"strings"
	"testing"

	"pharos/api"
	"pharos/edw"
	"pharos/order"
)

// What edw answers is held against points with an x and a y, of whole numbers of any size: they are added as the chapter's words say, by quotients.

// prime is p; whole is L; bend is the curve's d.
var (
	prime = power(255, -19)
	whole = new(big.Int).Add(power(252, 0), number("27742317777372353535851937790883648493"))
	bend  = over(small(-121665), small(121666))
)

// number is the one with these digits.
func number(digits string) *big.Int {
	n, is := new(big.Int).SetString(digits, 10)
	if !is {
		panic("no number: " + digits)
	}
	return n
}

// power is 2^n + more.
func power(n uint, more int64) *big.Int {
	x := new(big.Int).Lsh(big.NewInt(1), n)
	return x.Add(x, big.NewInt(more))
}

// small is n.
func small(n int64) *big.Int {
	return big.NewInt(n)
}

func add(a, b *big.Int) *big.Int { return reduce(new(big.Int).Add(a, b)) }
func sub(a, b *big.Int) *big.Int { return reduce(new(big.Int).Sub(a, b)) }
func mul(a, b *big.Int) *big.Int { return reduce(new(big.Int).Mul(a, b)) }

// reduce is n modulo p.
func reduce(n *big.Int) *big.Int {
	return n.Mod(n, power(255, -19))
}

// over is a divided by b, which is not 0.
func over(a, b *big.Int) *big.Int {
	p := power(255, -19)
	return mul(a, new(big.Int).ModInverse(new(big.Int).Mod(b, p), p))
}

// spot is a point.
type spot struct{ x, y *big.Int }

// nought is the zero point; base the base point, whose y is 4 by 5 and whose x is not odd.
var (
	nought = spot{small(0), small(1)}
	base   = func() spot {
		p, is := find(over(small(4), small(5)), 0)
		if !is {
			panic("no base point")
		}
		return p
	}()
)

// lies tells whether it is a point of the curve.
func (a spot) lies() bool {
	x, y := mul(a.x, a.x), mul(a.y, a.y)
	return sub(y, x).Cmp(add(small(1), mul(bend, mul(x, y)))) == 0
}

// find is the point with that y whose x has that lowest bit.
func find(y *big.Int, low uint) (spot, bool) {
	square := mul(y, y)
	x := over(sub(square, small(1)), add(mul(bend, square), small(1)))
	if x.ModSqrt(x, prime) == nil {
		return spot{}, false
	}
	if x.Bit(0) != low {
		x = sub(small(0), x)
	}
	return spot{x, y}, x.Bit(0) == low
}

// plus is the sum.
func (a spot) plus(b spot) spot {
	all := mul(bend, mul(mul(a.x, b.x), mul(a.y, b.y)))
	return spot{
		over(add(mul(a.x, b.y), mul(a.y, b.x)), add(small(1), all)),
		over(add(mul(a.y, b.y), mul(a.x, b.x)), sub(small(1), all)),
	}
}

// minus is the point that, added, makes the zero point.
func (a spot) minus() spot {
	return spot{sub(small(0), a.x), a.y}
}

// times is n times the point.
func (a spot) times(n *big.Int) spot {
	sum := nought
	for i := n.BitLen() - 1; i >= 0; i-- {
		sum = sum.plus(sum)
		if n.Bit(i) != 0 {
			sum = sum.plus(a)
		}
	}
	return sum
}

// same tells whether both are one point.
func (a spot) same(b spot) bool {
	return a.x.Cmp(b.x) == 0 && a.y.Cmp(b.y) == 0
}

// bytes are those of the point.
func (a spot) bytes() string {
	return text(new(big.Int).Add(a.y, new(big.Int).Lsh(small(int64(a.x.Bit(0))), 255)))
}

// of is the Point with the spot's bytes.
func of(t testing.TB, a spot) edw.Point {
	t.Helper()
	p, e := edw.Decode(a.bytes())
	if e != api.OK {
		t.Fatalf("Decode(%x): %v", a.bytes(), e)
	}
	return p
}

// is demands that p is that point, by its bytes and by Same.
func is(t testing.TB, what string, p edw.Point, a spot) {
	t.Helper()
	if p.Bytes() != a.bytes() {
		t.Fatalf("%s: %x, want %x", what, p.Bytes(), a.bytes())
	}
	if q := of(t, a); !p.Same(q) || !q.Same(p) || !p.Same(p) {
		t.Fatalf("%s: %x is not the same as itself", what, p.Bytes())
	}
}

// isNone demands that p is no point.
func isNone(t testing.TB, what string, p edw.Point) {
	t.Helper()
	if p.Bytes() != "" || p.Same(p) || p.Add(edw.Base()).Bytes() != "" {
		t.Fatalf("%s is %x, not none", what, p.Bytes())
	}
}

// scalar is n modulo L.
func scalar(t testing.TB, n *big.Int) order.Scalar {
	t.Helper()
	a, e := order.Of(text(new(big.Int).Mod(n, whole)))
	if e != api.OK {
		t.Fatalf("order.Of(%v): %v", n, e)
	}
	return a
}

// text is n in 32 bytes, the lowest first.
func text(n *big.Int) string {
	b := n.FillBytes(make([]byte, 32))
	for i, j := 0, len(b)-1; i < j; i, j = i+1, j-1 {
		b[i], b[j] = b[j], b[i]
	}
	return string(b)
}

// digits are the bytes that these say.
func digits(s string) string {
	b, err := hex.DecodeString(s)
	if err != nil {
		panic(err)
	}
	return string(b)
}

// rep is n times one byte.
func rep(c byte, n int) string {
	return strings.Repeat(string([]byte{c}), n)
}

// drawn is a point of the curve, seldom a multiple of the base point: of eight just one is.
func drawn(r *rand.Rand) spot {
	for {
		if p, is := find(new(big.Int).Rand(r, prime), uint(r.Intn(2))); is {
			return p
		}
	}
}

// eight are the points of which eight make the zero point; each is a multiple of the second one.
func eight() []spot {
	r := rand.New(rand.NewSource(8))
	for {
		a := drawn(r).times(whole)
		if four := a.times(small(4)); !four.same(nought) {
			l := []spot{nought}
			for range 7 {
				l = append(l, l[len(l)-1].plus(a))
			}
			return l
		}
	}
}

// some are points of all kinds: the eight, multiples of the base point, sums of one and one of the eight, drawn ones; and what is minus each.
func some(n int) []spot {
	l := eight()
	for _, a := range l {
		l = append(l, base.plus(a), base.plus(base).plus(a))
	}
	r := rand.New(rand.NewSource(9))
	for range n {
		l = append(l, drawn(r))
	}
	for _, a := range l {
		l = append(l, a.minus())
	}
	return l
}
