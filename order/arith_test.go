package order_test

import (
	"math/big"
	"math/rand"
	"testing"

	"pharos/order"
)

// muladd is what MulAdd of such numbers must be.
func muladd(a, b, c *big.Int) *big.Int {
	n := new(big.Int).Mul(a, b)
	return mod(n.Add(n, c))
}

// P7.2: product and sum of every edge with every other one, and of drawn ones; what is given stays as it is.
func TestMulAdd(t *testing.T) {
	all := some(256, 40)
	for i, m := range all {
		a := of(t, m)
		for j, n := range all {
			o := all[(i*5+j*11)%len(all)]
			b, c := of(t, n), of(t, o)
			is(t, m.String()+" * "+n.String()+" + "+o.String(), a.MulAdd(b, c), muladd(m, n, o))
			is(t, "b is as it was", b, n)
			is(t, "c is as it was", c, o)
		}
		is(t, "a is as it was", a, m)
	}
}

// P7.2: products and sums of what came in by 64 bytes.
func TestMulAddLong(t *testing.T) {
	all := some(512, 300)
	for i, m := range all {
		n, o := all[(i*7+1)%len(all)], all[(i*3+2)%len(all)]
		is(t, "long ones", of(t, m).MulAdd(of(t, n), of(t, o)), muladd(m, n, o))
	}
}

// P7.2: products and sums that just reach L, or just do not.
func TestMulAddAroundL(t *testing.T) {
	for _, m := range some(256, 40) {
		for _, n := range []*big.Int{big.NewInt(1), power(251, 0), new(big.Int).Sub(whole, big.NewInt(1))} {
			for k := int64(-5); k <= 5; k++ {
				rest := big.NewInt(k)
				rest.Sub(rest, new(big.Int).Mul(m, n))
				is(t, "just there", of(t, m).MulAdd(of(t, n), of(t, mod(rest))), big.NewInt(k))
			}
		}
	}
}

// P7.2: Same tells one number by whatever bytes it came, and any other one as another.
func TestSame(t *testing.T) {
	all := append(some(256, 40), some(512, 10)...)
	alike := 0
	for _, m := range all {
		a := of(t, m)
		for _, n := range all {
			want := mod(m).Cmp(mod(n)) == 0
			if a.Same(of(t, n)) != want {
				t.Fatalf("Same of %v and %v: %v", m, n, !want)
			}
			if want && m.Cmp(n) != 0 {
				alike++
			}
		}
	}
	if alike < 100 {
		t.Fatalf("%d pairs say little", alike)
	}
}

// P7.2: numbers that differ in one bit alone are two.
func TestSameEachBit(t *testing.T) {
	r := rand.New(rand.NewSource(72))
	for i := range uint(252) {
		for range 8 {
			n := new(big.Int).Rand(r, power(252, 0))
			m := new(big.Int).Xor(n, power(i, 0))
			if of(t, m).Same(of(t, n)) || of(t, n).Same(of(t, m)) {
				t.Fatalf("bit %d of %v", i, n)
			}
		}
	}
	if of(t, power(252, 0)).Same(order.Scalar{}) {
		t.Fatal("2^252 and 0")
	}
}

// The zero Scalar is 0, in every call.
func TestZeroScalar(t *testing.T) {
	var zero order.Scalar
	n, none := big.NewInt(5), new(big.Int)
	five := of(t, n)
	is(t, "Bytes", zero, none)
	is(t, "0 * 5 + 0", zero.MulAdd(five, zero), none)
	is(t, "5 * 0 + 0", five.MulAdd(zero, zero), none)
	is(t, "0 * 5 + 5", zero.MulAdd(five, five), n)
	is(t, "5 * 5 + 0", five.MulAdd(five, zero), big.NewInt(25))
	if !zero.Same(of(t, none)) || zero.Same(five) || five.Same(zero) || !zero.Same(of(t, whole)) {
		t.Error("Same of the zero Scalar")
	}
}

// P7.4: products and sums do not hang on the order, and a product of a sum is the sum of the products.
func TestOrder(t *testing.T) {
	var zero order.Scalar
	one := of(t, big.NewInt(1))
	all := some(256, 20)
	for i, m := range all {
		for j := range all {
			a, b, c := of(t, m), of(t, all[j]), of(t, all[(i*7+j*3)%len(all)])
			same(t, "a * b + c", a.MulAdd(b, c), b.MulAdd(a, c))
			same(t, "a + b", a.MulAdd(one, b), b.MulAdd(one, a))
			same(t, "a * b * c", a.MulAdd(b, zero).MulAdd(c, zero), a.MulAdd(b.MulAdd(c, zero), zero))
			same(t, "a + b + c", a.MulAdd(one, b).MulAdd(one, c), a.MulAdd(one, b.MulAdd(one, c)))
			same(t, "(a + b) * c", a.MulAdd(one, b).MulAdd(c, zero), a.MulAdd(c, b.MulAdd(c, zero)))
		}
	}
}

// same demands that both are one number, by Same and by their bytes.
func same(t *testing.T, what string, a, b order.Scalar) {
	t.Helper()
	if !a.Same(b) || !b.Same(a) || a.Bytes() != b.Bytes() {
		t.Fatalf("%s: % x and % x", what, a.Bytes(), b.Bytes())
	}
}

// P7.2: a long game: what one call answers is what the next is given, by itself or by its bytes.
func TestModel(t *testing.T) {
	r := rand.New(rand.NewSource(77))
	want := make([]*big.Int, 6)
	have := make([]order.Scalar, 6)
	for i := range want {
		want[i] = new(big.Int)
	}
	for range 20000 {
		i, j, k, l := r.Intn(6), r.Intn(6), r.Intn(6), r.Intn(6)
		switch r.Intn(8) {
		case 0:
			n := drawn(r, 256)
			want[i], have[i] = mod(n), of(t, n)
		case 1:
			n := drawn(r, 512)
			want[i], have[i] = mod(n), of(t, n)
		case 2:
			b, e := order.Of(have[j].Bytes())
			if e != 0 || !b.Same(have[j]) {
				t.Fatalf("Of of Bytes of %v: %v", want[j], e)
			}
			want[i], have[i] = want[j], b
		default:
			n := muladd(want[j], want[k], want[l])
			want[i], have[i] = n, have[j].MulAdd(have[k], have[l])
		}
		is(t, "a step", have[i], want[i])
		if same := want[j].Cmp(want[k]) == 0; have[j].Same(have[k]) != same {
			t.Fatalf("Same of %v and %v: %v", want[j], want[k], !same)
		}
	}
}
