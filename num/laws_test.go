package num_test

import (
	"testing"

	"pharos/num"
)

// P6.4: sums and products do not hang on the order, and a product of a sum is the sum of the products.
func TestOrderAndSums(t *testing.T) {
	all := some(60)
	for i, m := range all {
		for j, n := range all {
			a, b, c := of(t, m), of(t, n), of(t, all[(i*7+j*3)%len(all)])
			same(t, "a + b", a.Add(b), b.Add(a))
			same(t, "a * b", a.Mul(b), b.Mul(a))
			same(t, "a + b + c", a.Add(b).Add(c), a.Add(b.Add(c)))
			same(t, "a * b * c", a.Mul(b).Mul(c), a.Mul(b.Mul(c)))
			same(t, "(a + b) * c", a.Add(b).Mul(c), a.Mul(c).Add(b.Mul(c)))
			same(t, "(a - b) * c", a.Sub(b).Mul(c), a.Mul(c).Sub(b.Mul(c)))
			same(t, "a - b + b", a.Sub(b).Add(b), a)
		}
	}
}

// same demands that both are one number, by Same and by their bytes.
func same(t *testing.T, what string, a, b num.Elem) {
	t.Helper()
	if !a.Same(b) || !b.Same(a) || a.Bytes() != b.Bytes() {
		t.Fatalf("%s: % x and % x", what, a.Bytes(), b.Bytes())
	}
}

// P6.4: what is multiplied by its Inv is 1, but of 0.
func TestTimesInv(t *testing.T) {
	for _, n := range some(300) {
		a := of(t, n)
		want := num.Small(1)
		if mod(n).Sign() == 0 {
			want = num.Small(0)
		}
		same(t, "a * Inv of a", a.Mul(a.Inv()), want)
		same(t, "Inv of Inv", a.Inv().Inv(), a)
	}
}

// P6.4: of a number that is not 0 and twice it just one has a root; it has one that is odd and one that is not.
func TestJustOneHasARoot(t *testing.T) {
	for _, n := range some(300) {
		if mod(n).Sign() == 0 {
			continue
		}
		a := of(t, n)
		var has [2][2]bool
		for i, x := range []num.Elem{a, a.Add(a)} {
			for j, odd := range []bool{false, true} {
				var r num.Elem
				r, has[i][j] = x.Root(odd)
				if has[i][j] && (r.Odd() != odd || !r.Mul(r).Same(x)) {
					t.Fatalf("Root(%v) of % x: % x", odd, x.Bytes(), r.Bytes())
				}
			}
		}
		if has[0][0] != has[0][1] || has[1][0] != has[1][1] || has[0][0] == has[1][0] {
			t.Fatalf("%v and twice it: %v", n, has)
		}
	}
}
