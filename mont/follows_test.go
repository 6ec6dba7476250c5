package mont_test

import (
	"math/big"
	"math/rand"
	"testing"

	"pharos/api"
	"pharos/mont"
)

// P8.2: what each makes of its secret and the other one's Public is one text.
func TestBothTheSame(t *testing.T) {
	r := rand.New(rand.NewSource(821))
	seen := map[string]bool{}
	for range 100 {
		a, b := drawn(r), drawn(r)
		both := shared(t, a, public(t, b))
		if both != shared(t, b, public(t, a)) {
			t.Fatalf("%x and %x: two texts", a, b)
		}
		seen[both] = true
	}
	if len(seen) != 100 {
		t.Errorf("of 100 pairs %d texts", len(seen))
	}
	for _, a := range secrets() {
		for _, b := range secrets() {
			if shared(t, a, public(t, b)) != shared(t, b, public(t, a)) {
				t.Fatalf("%x and %x: two texts", a, b)
			}
		}
	}
}

// sameKey demands that two public keys are one, whatever the answer is.
func sameKey(t *testing.T, secret, a, b string) {
	t.Helper()
	s, e := mont.Shared(secret, a)
	is(t, secret, b, s, e)
}

// P8.2: the highest bit of a public key says nothing, and every other one does.
func TestHighestBit(t *testing.T) {
	r := rand.New(rand.NewSource(822))
	for range 100 {
		p := drawn(r)
		sameKey(t, drawn(r), p, flip(p, 255))
	}
	for _, p := range publics() {
		sameKey(t, rep('k', 32), p, flip(p, 255))
	}
	s, p := drawn(r), drawn(r)
	for bit := range 255 {
		if shared(t, s, p) == shared(t, s, flip(p, bit)) {
			t.Errorf("bit %d: the same key", bit)
		}
	}
}

// P8.2: the nineteen numbers from p to 2^255 - 1 are the same keys as those from 0 to 18; the first two come to 0.
func TestAboveThePrime(t *testing.T) {
	r := rand.New(rand.NewSource(823))
	for n := range int64(19) {
		s := drawn(r)
		low := text(small(n))
		high := text(new(big.Int).Add(prime, small(n)))
		sameKey(t, s, low, high)
		sameKey(t, s, low, flip(high, 255))
		if _, e := mont.Shared(s, high); (e == api.ErrWeak) != (n < 2) {
			t.Errorf("p + %d: %v", n, e)
		}
	}
}
