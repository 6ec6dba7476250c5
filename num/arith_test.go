package num_test

import (
	"math/big"
	"math/rand"
	"testing"

	"pharos/num"
)

// P6.2: sum, difference and product of every edge with every other one, and of drawn ones.
func TestSumsAndProducts(t *testing.T) {
	all := some(100)
	for _, m := range all {
		a := of(t, m)
		for _, n := range all {
			b := of(t, n)
			is(t, m.String()+" + "+n.String(), a.Add(b), new(big.Int).Add(m, n))
			is(t, m.String()+" - "+n.String(), a.Sub(b), new(big.Int).Sub(m, n))
			is(t, m.String()+" * "+n.String(), a.Mul(b), new(big.Int).Mul(m, n))
		}
		is(t, "a is as it was", a, m)
	}
}

// P6.2: sums that just reach p and products that make little numbers, which take the last step of p, or just do not.
func TestAroundP(t *testing.T) {
	p := prime()
	for _, n := range some(100) {
		a := of(t, n)
		for k := range int64(100) {
			small := big.NewInt(k - 50)
			other := new(big.Int).Sub(small, n)
			is(t, "a sum", a.Add(of(t, mod(other))), small)
			is(t, "a difference", a.Sub(of(t, mod(new(big.Int).Neg(other)))), small)
			if mod(n).Sign() == 0 {
				continue
			}
			other.ModInverse(mod(n), p)
			other.Mul(other, small)
			is(t, "a product", a.Mul(of(t, mod(other))), small)
		}
	}
}

// P6.2: Inv is that by which it is to be multiplied to make 1; of 0 it is 0, of p - 1 it is p - 1.
func TestInv(t *testing.T) {
	p := prime()
	for _, n := range some(500) {
		want := new(big.Int).ModInverse(mod(n), p)
		if want == nil {
			want = new(big.Int)
		}
		is(t, "Inv of "+n.String(), of(t, n).Inv(), want)
	}
	is(t, "Inv of 0", num.Small(0).Inv(), new(big.Int))
	is(t, "Inv of 1", num.Small(1).Inv(), big.NewInt(1))
	is(t, "Inv of p", of(t, p).Inv(), new(big.Int))
	is(t, "Inv of p - 1", of(t, new(big.Int).Sub(p, big.NewInt(1))).Inv(), big.NewInt(-1))
}

// P6.2: Same tells one number by whatever bytes it came, and any other one as another.
func TestSame(t *testing.T) {
	all := some(50)
	alike := 0
	for _, m := range all {
		for _, n := range all {
			want := mod(m).Cmp(mod(n)) == 0
			if of(t, m).Same(of(t, n)) != want {
				t.Fatalf("Same of %v and %v: %v", m, n, !want)
			}
			if want && m.Cmp(n) != 0 {
				alike++
			}
		}
	}
	if alike < 20 {
		t.Fatalf("%d pairs say little", alike)
	}
}

// P6.2: numbers that differ in one bit alone are two.
func TestSameEachBit(t *testing.T) {
	r := rand.New(rand.NewSource(62))
	for i := range uint(255) {
		n := mod(drawn(r))
		m := new(big.Int).Xor(n, power(i, 0))
		if m.Cmp(prime()) >= 0 {
			continue
		}
		if of(t, m).Same(of(t, n)) || of(t, n).Same(of(t, m)) {
			t.Fatalf("bit %d of %v", i, n)
		}
	}
}

// P6.2: Odd is asked of the number below p, not of the bytes that came.
func TestOdd(t *testing.T) {
	turned := 0
	for _, n := range some(500) {
		want := mod(n).Bit(0) == 1
		if of(t, n).Odd() != want {
			t.Fatalf("Odd of %v: %v", n, !want)
		}
		if n.Bit(0) != mod(n).Bit(0) {
			turned++
		}
	}
	if turned < 50 {
		t.Fatalf("%d numbers say little", turned)
	}
}

// P6.2: a long game of sums, differences, products and Invs: what one call answers is what the next is given.
func TestModel(t *testing.T) {
	r := rand.New(rand.NewSource(66))
	p := prime()
	want := make([]*big.Int, 8)
	have := make([]num.Elem, 8)
	for i := range want {
		want[i] = mod(drawn(r))
		have[i] = of(t, want[i])
	}
	for range 20000 {
		i, j, k := r.Intn(8), r.Intn(8), r.Intn(8)
		n := new(big.Int)
		switch r.Intn(16) {
		case 0, 1, 2, 3, 4:
			n.Add(want[j], want[k])
			have[i] = have[j].Add(have[k])
		case 5, 6, 7, 8, 9:
			n.Sub(want[j], want[k])
			have[i] = have[j].Sub(have[k])
		case 10, 11, 12, 13:
			n.Mul(want[j], want[k])
			have[i] = have[j].Mul(have[k])
		case 14:
			n.Exp(want[j], new(big.Int).Sub(p, big.NewInt(2)), p)
			have[i] = have[j].Inv()
		case 15:
			n = drawn(r)
			have[i] = of(t, n)
		}
		want[i] = mod(n)
		is(t, "a step", have[i], want[i])
	}
}
