package sign_test

import (
	"crypto/ed25519"
	"crypto/sha512"
	"encoding/hex"
	"math/big"
	"math/rand"
	"slices"
	"strings"
	"testing"

	"pharos/api"
	"pharos/edw"
	"pharos/order"
	"pharos/sign"
)

// What sign answers is held against the library's signatures, and against the chapter's words, written anew with the library's digests and its whole numbers of any size. Points are those of edw, whose own tests hold them against a model.

// whole is L.
var whole = func() *big.Int {
	n, _ := new(big.Int).SetString("27742317777372353535851937790883648493", 10)
	return n.Add(n, new(big.Int).Lsh(big.NewInt(1), 252))
}()

// drawn are n bytes.
func drawn(r *rand.Rand, n int) string {
	b := make([]byte, n)
	r.Read(b)
	return string(b)
}

// full are n times one byte.
func full(c byte, n int) string {
	return strings.Repeat(string([]byte{c}), n)
}

// hexed is a text out of its hexadecimal digits.
func hexed(t testing.TB, s string) string {
	t.Helper()
	b, err := hex.DecodeString(s)
	if err != nil {
		t.Fatal(err)
	}
	return string(b)
}

// turned is a text, of which that bit is another one.
func turned(s string, bit int) string {
	b := []byte(s)
	b[bit/8] ^= 1 << (bit % 8)
	return string(b)
}

// read is the number that the bytes are, the lowest first.
func read(s string) *big.Int {
	b := []byte(s)
	slices.Reverse(b)
	return new(big.Int).SetBytes(b)
}

// write is a number in 32 bytes, the lowest first.
func write(n *big.Int) string {
	b := n.FillBytes(make([]byte, 32))
	slices.Reverse(b)
	return string(b)
}

// digest is the number of texts, modulo L.
func digest(l ...string) *big.Int {
	d := sha512.Sum512([]byte(strings.Join(l, "")))
	n := read(string(d[:]))
	return n.Mod(n, whole)
}

// scalar is n modulo L.
func scalar(t testing.TB, n *big.Int) order.Scalar {
	t.Helper()
	a, e := order.Of(write(new(big.Int).Mod(n, whole)))
	if e != api.OK {
		t.Fatalf("order.Of(%v): %v", n, e)
	}
	return a
}

// times is n times the base point.
func times(t testing.TB, n *big.Int) edw.Point {
	t.Helper()
	return edw.Base().Both(order.Scalar{}, scalar(t, n))
}

// point is the one with these bytes.
func point(t testing.TB, s string) edw.Point {
	t.Helper()
	p, e := edw.Decode(s)
	if e != api.OK {
		t.Fatalf("Decode(%x): %v", s, e)
	}
	return p
}

// eight are the points of which eight make the zero point; each is that many times the second one.
func eight(t testing.TB) []edw.Point {
	t.Helper()
	one := point(t, hexed(t, "c7176a703d4dd84fba3c0b760d10670f2a2053fa2c39ccc64ec7fd7792ac037a"))
	l := []edw.Point{edw.Zero()}
	for range 7 {
		l = append(l, l[len(l)-1].Add(one))
	}
	return l
}

// public demands that all is well.
func public(t testing.TB, secret string) string {
	t.Helper()
	s, e := sign.Public(secret)
	if e != api.OK || len(s) != 32 {
		t.Fatalf("Public(%x): %x %v", secret, s, e)
	}
	return s
}

// signed demands that all is well.
func signed(t testing.TB, secret, s string) string {
	t.Helper()
	x, e := sign.Sign(secret, s)
	if e != api.OK || len(x) != 64 {
		t.Fatalf("Sign(%x), a text of %d bytes: %x %v", secret, len(s), x, e)
	}
	return x
}

// library tells whether the library takes the signature. It has no eye for weak publics, and none for how they are written.
func library(public, s, signature string) bool {
	return ed25519.Verify(ed25519.PublicKey(public), []byte(s), []byte(signature))
}

// verifies demands that Verify answers that.
func verifies(t testing.TB, want bool, what, public, s, signature string) {
	t.Helper()
	if got := sign.Verify(public, s, signature); got != want {
		t.Fatalf("%s: public %x, a text of %d bytes, signature %x: %v", what, public, len(s), signature, got)
	}
}
