package mont_test

import (
	"math/big"
	"math/rand"
	"testing"

	"pharos/api"
	"pharos/mont"
)

// lengths are those that no key has.
var lengths = []int{0, 1, 8, 16, 31, 33, 63, 64, 65, 1000}

// P8.1, R1, R2: a text that has not 32 bytes is ErrArg and nothing, wherever it stands, ahead of ErrWeak.
func TestNot32Bytes(t *testing.T) {
	for _, n := range lengths {
		for _, c := range []byte{0, 1, 'k', 0xff} {
			x := rep(c, n)
			if s, e := mont.Public(x); s != "" || e != api.ErrArg {
				t.Errorf("Public of %d bytes: %x %v", n, s, e)
			}
			for _, right := range []string{rep('k', 32), rep(0, 32), "\x01" + rep(0, 31)} {
				is(t, x, right, "", api.ErrArg)
				is(t, right, x, "", api.ErrArg)
			}
			is(t, x, x, "", api.ErrArg)
		}
	}
	is(t, rep('k', 31), rep('k', 33), "", api.ErrArg)
	is(t, rep('k', 33), rep('k', 31), "", api.ErrArg)
}

// weakest are the first coordinates of the points of which eight come to nothing: of the curve, and p - 1 of its twist.
func weakest() []*big.Int {
	return []*big.Int{
		small(0),
		small(1),
		whole(of("e0eb7a7c3b41b8ae1656e3faf19fc46ada098deb9c32b1fd866205165f49b800")),
		whole(of("5f9c95bca3508c24b1d0b1559c83ef5b04445cc4581c8e86d8224eddd09f1157")),
		power(255, -20),
	}
}

// P8.1, R2: what comes to 32 bytes 0 is ErrWeak and nothing, of every secret, however the public key is told.
func TestWeak(t *testing.T) {
	r := rand.New(rand.NewSource(811))
	for _, s := range append(secrets(), drawn(r), drawn(r)) {
		for _, n := range weakest() {
			p := text(n)
			is(t, s, p, "", api.ErrWeak)
			is(t, s, flip(p, 255), "", api.ErrWeak)
			if above := new(big.Int).Add(n, prime); above.BitLen() <= 255 {
				is(t, s, text(above), "", api.ErrWeak)
				is(t, s, flip(text(above), 255), "", api.ErrWeak)
			}
		}
	}
}

// P8.1: those beside the weak ones are not weak.
func TestBesideTheWeak(t *testing.T) {
	for _, n := range weakest()[2:] {
		for _, more := range []int64{-2, -1} {
			want(t, rep('k', 32), text(new(big.Int).Add(n, small(more))))
			shared(t, rep('k', 32), text(new(big.Int).Add(n, small(more))))
		}
	}
	shared(t, rep('k', 32), text(small(2)))
}

// P8.1: no secret's own Public is weak, nor weak for another one.
func TestPublicIsNeverWeak(t *testing.T) {
	r := rand.New(rand.NewSource(812))
	for _, s := range append(secrets(), drawn(r)) {
		shared(t, drawn(r), public(t, s))
	}
}

// The chapter's examples, but those of RFC 7748.
func TestExamples(t *testing.T) {
	for _, s := range append(secrets(), rep('k', 32)) {
		is(t, s, rep(0, 32), "", api.ErrWeak)
		is(t, s, "\x01"+rep(0, 31), "", api.ErrWeak)
	}
	is(t, rep(0, 31), rep('x', 32), "", api.ErrArg)
}
