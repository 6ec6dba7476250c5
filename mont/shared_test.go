package mont_test

import (
	"crypto/ecdh"
	"math/big"
	"math/rand"
	"testing"

	"pharos/api"
	"pharos/mont"
)

// secrets are some at which the ladder's first or last steps are of one kind, and some that lead it over the point that adds nothing.
func secrets() []string {
	four := new(big.Int).Lsh(order, 2)
	return []string{
		rep(0, 32),
		rep(0xff, 32),
		rep(0x55, 32),
		rep(0xaa, 32),
		text(power(254, 8)),
		text(power(255, -8)),
		text(four.Sub(four, small(4))), // on its way, the base point comes to nothing
		text(four.Add(four, small(8))),
	}
}

// publics are some at the edges: near 0, p and 2^255, of the curve and of its twist.
func publics() []string {
	var l []string
	for _, n := range []*big.Int{small(0), power(128, 0), prime, power(255, 0), power(256, -1)} {
		for more := int64(-20); more <= 20; more++ {
			x := new(big.Int).Add(n, small(more))
			if x.Sign() >= 0 && x.BitLen() <= 256 {
				l = append(l, text(x))
			}
		}
	}
	return l
}

// P8.1: at the edges Shared is what the points with both coordinates have; among them are points of the curve, of its twist, and those that come to 0.
func TestSharedEdges(t *testing.T) {
	curves, twists, weak := 0, 0, 0
	for i, p := range publics() {
		s := secrets()[i%len(secrets())]
		want(t, s, p)
		_, e := mont.Shared(s, p)
		switch {
		case e == api.ErrWeak:
			weak++
		case isTwist(first(p)):
			twists++
		default:
			curves++
		}
	}
	if curves < 30 || twists < 30 || weak < 6 {
		t.Errorf("says little: %d, %d, %d", curves, twists, weak)
	}
}

// P8.1: each secret of the edges, with the base point and with one of the twist.
func TestSharedSecrets(t *testing.T) {
	for _, x := range []int64{2, 9} {
		if isTwist(small(x)) == (x == 9) {
			t.Fatalf("%d is of the other one", x)
		}
		for _, s := range secrets() {
			want(t, s, text(small(x)))
		}
	}
}

// P8.1: any keys, held against the points with both coordinates.
func TestSharedDrawn(t *testing.T) {
	r := rand.New(rand.NewSource(81))
	twists := 0
	for range 60 {
		s, p := drawn(r), drawn(r)
		want(t, s, p)
		if isTwist(first(p)) {
			twists++
		}
	}
	if twists < 15 || twists > 45 {
		t.Errorf("says little: %d of the twist", twists)
	}
}

// P8.1, W6: any keys, many of them, held against those of the library.
func TestSharedAsTheWorldHasIt(t *testing.T) {
	r := rand.New(rand.NewSource(82))
	for range 600 {
		s, p := drawn(r), drawn(r)
		private, err := ecdh.X25519().NewPrivateKey([]byte(s))
		if err != nil {
			t.Fatal(err)
		}
		other, err := ecdh.X25519().NewPublicKey([]byte(p))
		if err != nil {
			t.Fatal(err)
		}
		both, err := private.ECDH(other)
		if err != nil {
			t.Fatal(err)
		}
		is(t, s, p, string(both), api.OK)
		if got := public(t, s); got != string(private.PublicKey().Bytes()) {
			t.Fatalf("Public(%x): %x", s, got)
		}
	}
}

// P8.1: Public is what Shared makes of 9, and what the points with both coordinates have.
func TestPublic(t *testing.T) {
	r := rand.New(rand.NewSource(83))
	nine := text(small(9))
	for _, s := range append(secrets(), drawn(r), drawn(r), drawn(r)) {
		got := public(t, s)
		if got != shared(t, s, nine) || got != text(multiple(number(s), small(9))) {
			t.Errorf("Public(%x): %x", s, got)
		}
	}
}

// P8.1: of a secret what Clamp makes of it counts: the five bits that it sets say nothing, however they stand, and every other one does.
func TestSecretBits(t *testing.T) {
	r := rand.New(rand.NewSource(84))
	s, p := drawn(r), drawn(r)
	one, both := public(t, s), shared(t, s, p)
	for stand := range 32 {
		x := s
		for i, bit := range []int{0, 1, 2, 254, 255} {
			if stand>>i&1 != 0 {
				x = flip(x, bit)
			}
		}
		if public(t, x) != one || shared(t, x, p) != both {
			t.Errorf("the bits that are set, %d: another key", stand)
		}
	}
	for bit := 3; bit < 254; bit++ {
		if x := flip(s, bit); public(t, x) == one || shared(t, x, p) == both {
			t.Errorf("bit %d: the same key", bit)
		}
	}
}

// P8.1: a secret and what it wants to 8 times the order are opposites: with a point of the curve both make one first coordinate.
func TestSharedOpposite(t *testing.T) {
	r := rand.New(rand.NewSource(85))
	for range 30 {
		s := power(254, 8*r.Int63n(1<<60)) // few are so low that their opposite has the highest bit, too
		other := new(big.Int).Sub(new(big.Int).Lsh(order, 3), s)
		if number(text(other)).Cmp(other) != 0 {
			t.Fatalf("%v is none that is clamped", other)
		}
		p := public(t, drawn(r))
		if shared(t, text(s), p) != shared(t, text(other), p) {
			t.Fatalf("%v and %v are no opposites", s, other)
		}
	}
}

// P8.1: what comes may be any number, a small one too: then it is canonical, and not weak.
func TestSharedComesToNine(t *testing.T) {
	r := rand.New(rand.NewSource(86))
	for range 10 {
		s := drawn(r)
		back := new(big.Int).ModInverse(number(s), order)
		is(t, s, text(multiple(back, small(9))), text(small(9)), api.OK)
	}
}

// R6: what was asked before changes nothing.
func TestAgain(t *testing.T) {
	r := rand.New(rand.NewSource(87))
	s, p := drawn(r), drawn(r)
	one, both := public(t, s), shared(t, s, p)
	if _, e := mont.Shared(s, rep(0, 32)); e != api.ErrWeak {
		t.Fatal(e)
	}
	public(t, drawn(r))
	if public(t, s) != one || shared(t, s, p) != both {
		t.Error("another answer")
	}
}
