package edw_test

import (
	"crypto/ed25519"
	"crypto/sha512"
	"math/big"
	"math/rand"
	"testing"

	"pharos/api"
	"pharos/edw"
	"pharos/order"
)

// P9.4: sums do not hang on the order.
func TestOrderOfSums(t *testing.T) {
	all := some(15)
	for i, a := range all {
		for j, b := range all {
			p, q, r := of(t, a), of(t, b), of(t, all[(i*7+j*3)%len(all)])
			if x, y := p.Add(q), q.Add(p); !x.Same(y) || x.Bytes() != y.Bytes() {
				t.Fatalf("%x and %x", a.bytes(), b.bytes())
			}
			if x, y := p.Add(q).Add(r), p.Add(q.Add(r)); !x.Same(y) || x.Bytes() != y.Bytes() {
				t.Fatalf("%x and %x and %x", a.bytes(), b.bytes(), r.Bytes())
			}
			if x, y := p.Add(q).Twice(), p.Twice().Add(q.Twice()); !x.Same(y) {
				t.Fatalf("twice %x and %x", a.bytes(), b.bytes())
			}
		}
	}
}

// P9.4: of multiples of the base point Both of sums of scalars is the sum, also where the scalars' sum goes beyond L.
func TestBothOfSums(t *testing.T) {
	r := rand.New(rand.NewSource(97))
	one := scalar(t, small(1))
	l := edges()
	for range 20 {
		l = append(l, new(big.Int).Rand(r, whole))
	}
	p := edw.Base().Both(scalar(t, new(big.Int).Rand(r, whole)), order.Scalar{})
	for range 300 {
		pick := func() order.Scalar { return scalar(t, l[r.Intn(len(l))]) }
		a, b, c, d := pick(), pick(), pick(), pick()
		sum := p.Both(a.MulAdd(one, c), b.MulAdd(one, d))
		if two := p.Both(a, b).Add(p.Both(c, d)); !sum.Same(two) || sum.Bytes() != two.Bytes() {
			t.Fatalf("%x %x and %x %x", a.Bytes(), b.Bytes(), c.Bytes(), d.Bytes())
		}
	}
}

// P9.4: L times the base point is the zero point: by steps, by L - 1 and 1, by L itself.
func TestOrderOfBase(t *testing.T) {
	sum := edw.Zero()
	for i := whole.BitLen() - 1; i >= 0; i-- {
		sum = sum.Twice()
		if whole.Bit(i) != 0 {
			sum = sum.Add(edw.Base())
		}
	}
	is(t, "by steps", sum, nought)
	last, one := scalar(t, new(big.Int).Sub(whole, small(1))), scalar(t, small(1))
	is(t, "L - 1 and 1", edw.Base().Both(last, one), nought)
	is(t, "1 and L - 1", edw.Base().Both(one, last), nought)
	is(t, "L - 1", edw.Base().Both(last, order.Scalar{}), base.minus())
	l, e := order.Of(text(whole))
	if e != api.OK {
		t.Fatal(e)
	}
	is(t, "L and L", edw.Base().Both(l, l), nought)
}

// secret is the number that a seed's digest says.
func secret(t *testing.T, seed string) order.Scalar {
	t.Helper()
	d := sha512.Sum512([]byte(seed))
	s, e := order.Clamp(string(d[:32]))
	if e != api.OK {
		t.Fatal(e)
	}
	n, e := order.Of(s)
	if e != api.OK {
		t.Fatal(e)
	}
	return n
}

// W6: the public keys of RFC 8032, section 7.1.
func TestKnownKeys(t *testing.T) {
	for _, x := range []struct{ seed, public string }{
		{"9d61b19deffd5a60ba844af492ec2cc44449c5697b326919703bac031cae7f60", "d75a980182b10ab7d54bfed3c964073a0ee172f3daa62325af021a68f707511a"},
		{"4ccd089b28ff96da9db6c346ec114e0f5b8a319f35aba624da8cf6ed4fb8a6fb", "3d4017c3e843895a92b70aa74d1b7ebc9c982ccf2ec4968cc0cd55f12af4660c"},
		{"c5aa8df43f9f837bedb7442f31dcb7b166d38535076f094b85ce3a2e0b4458f7", "fc51cd8e6218a1a38da47ed00230f0580816ed13ba3303ac5deb911548908025"},
	} {
		p := edw.Zero().Both(order.Scalar{}, secret(t, digits(x.seed)))
		if p.Bytes() != digits(x.public) {
			t.Errorf("%s: %x", x.seed, p.Bytes())
		}
	}
}

// W6: the library's public keys are points, and the same multiples of the base point.
func TestLibraryKeys(t *testing.T) {
	r := rand.New(rand.NewSource(98))
	for range 100 {
		seed := make([]byte, ed25519.SeedSize)
		r.Read(seed)
		want := string(ed25519.NewKeyFromSeed(seed)[32:])
		p := edw.Base().Both(secret(t, string(seed)), order.Scalar{})
		q, e := edw.Decode(want)
		if e != api.OK || p.Bytes() != want || !p.Same(q) {
			t.Fatalf("%x: %x %v, want %x", seed, p.Bytes(), e, want)
		}
	}
}

// W6: what the library signs keeps to what RFC 8032 asks of the points of a signature.
func TestLibrarySignatures(t *testing.T) {
	r := rand.New(rand.NewSource(99))
	for range 30 {
		seed := make([]byte, ed25519.SeedSize)
		r.Read(seed)
		key := ed25519.NewKeyFromSeed(seed)
		text := seed[:r.Intn(len(seed))]
		mark := ed25519.Sign(key, text)
		d := sha512.Sum512([]byte(string(mark[:32]) + string(key[32:]) + string(text)))
		k, _ := order.Of(string(d[:]))
		s, _ := order.Of(string(mark[32:]))
		public, e := edw.Decode(string(key[32:]))
		if e != api.OK {
			t.Fatal(e)
		}
		random, e := edw.Decode(string(mark[:32]))
		if e != api.OK {
			t.Fatal(e)
		}
		left, right := edw.Zero().Both(order.Scalar{}, s), public.Both(k, order.Scalar{}).Add(random)
		if !left.Same(right) {
			t.Fatalf("%x: %x and %x", seed, left.Bytes(), right.Bytes())
		}
	}
}
