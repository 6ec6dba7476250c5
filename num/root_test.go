package num_test

import (
	"math/big"
	"testing"

	"pharos/num"
)

// roots are those of n modulo p, found by trying both that the library's one makes.
func roots(n *big.Int) map[uint]*big.Int {
	l := map[uint]*big.Int{}
	r := new(big.Int).ModSqrt(mod(n), prime())
	if r == nil {
		return l
	}
	other := mod(new(big.Int).Neg(r))
	l[r.Bit(0)] = r
	l[other.Bit(0)] = other
	return l
}

// askRoot holds both calls of Root against the roots that there are.
func askRoot(t *testing.T, n *big.Int) int {
	t.Helper()
	there := roots(n)
	for bit, odd := range []bool{false, true} {
		r, has := of(t, n).Root(odd)
		want := there[uint(bit)]
		if has != (want != nil) {
			t.Fatalf("Root(%v) of %v: %v", odd, n, has)
		}
		if want == nil {
			want = new(big.Int)
		}
		is(t, "Root of "+n.String(), r, want)
	}
	return len(there)
}

// P6.3, R2: the root that is odd and the one that is not, of numbers that have some; 0 and false, where there is none.
func TestRoot(t *testing.T) {
	none, two := 0, 0
	for _, n := range some(400) {
		switch askRoot(t, n) {
		case 0:
			none++
		case 2:
			two++
		}
	}
	if none < 150 || two < 150 {
		t.Fatalf("%d without a root, %d with two say little", none, two)
	}
}

// P6.3: what was multiplied by itself has both roots: it, and its opposite.
func TestRootOfSquares(t *testing.T) {
	for _, n := range some(300) {
		a := of(t, n)
		r, has := a.Mul(a).Root(a.Odd())
		if !has {
			t.Fatalf("the square of %v has no root", n)
		}
		is(t, "the root", r, n)
		if mod(n).Sign() == 0 {
			continue
		}
		r, has = a.Mul(a).Root(!a.Odd())
		if !has {
			t.Fatalf("the square of %v has no other root", n)
		}
		is(t, "the other root", r, new(big.Int).Neg(n))
	}
}

// P6.3: roots of little numbers, of which 0 has one, that is not odd, and 1 has 1 and p - 1.
func TestRootOfSmall(t *testing.T) {
	for k := range int64(200) {
		askRoot(t, big.NewInt(k))
		askRoot(t, mod(big.NewInt(-k)))
	}
	for _, x := range []struct {
		odd, is bool
		of      uint32
		root    int64
	}{
		{false, true, 0, 0},
		{true, false, 0, 0},
		{true, true, 1, 1},
		{false, true, 1, -1},
		{false, true, 4, 2},
		{true, true, 4, -2},
		{true, true, 9, 3},
		{false, true, 9, -3},
		{false, false, 2, 0},
		{true, false, 2, 0},
		{false, false, 8, 0},
		{true, false, 8, 0},
	} {
		r, has := num.Small(x.of).Root(x.odd)
		if has != x.is {
			t.Errorf("Root(%v) of %d: %v", x.odd, x.of, has)
		}
		is(t, "Root", r, big.NewInt(x.root))
	}
}

// P6.3: p - 1 has roots, as 4 leaves 1 of p; the known one is 2 to the power (p - 1) / 4.
func TestRootOfMinusOne(t *testing.T) {
	p := prime()
	quarter := new(big.Int).Rsh(p, 2)
	known := new(big.Int).Exp(big.NewInt(2), quarter, p)
	minus := num.Elem{}.Sub(num.Small(1))
	r, has := minus.Root(known.Bit(0) == 1)
	if !has {
		t.Fatal("p - 1 has no root")
	}
	is(t, "the root of p - 1", r, known)
	is(t, "its square", r.Mul(r), big.NewInt(-1))
	if other, has := minus.Root(known.Bit(0) == 0); !has || !other.Add(r).Same(num.Elem{}) {
		t.Fatal("the other root of p - 1")
	}
}

// P6.3: the number that came as bytes above p has the roots of what it is modulo p.
func TestRootOfBytesAboveP(t *testing.T) {
	for k := range int64(38) {
		askRoot(t, new(big.Int).Add(prime(), big.NewInt(k)))
		askRoot(t, new(big.Int).Add(new(big.Int).Lsh(prime(), 1), big.NewInt(k)))
	}
}
