package sign_test

import (
	"math/big"
	"math/rand"
	"strconv"
	"testing"

	"pharos/api"
	"pharos/edw"
	"pharos/order"
	"pharos/sign"
)

// P14.2: with a bit turned of the public, of the text, or of either half of the signature, it is none.
func TestTurned(t *testing.T) {
	for _, s := range []string{"\x00", full(129, 20)} {
		secret := full(byte(len(s)), 32)
		p, x := public(t, secret), signed(t, secret, s)
		verifies(t, true, "nothing turned", p, s, x)
		for i := range 8 * len(p) {
			verifies(t, false, "public", turned(p, i), s, x)
		}
		for i := range 8 * len(s) {
			verifies(t, false, "text", p, turned(s, i), x)
		}
		for i := range 8 * len(x) {
			verifies(t, false, "signature", p, s, turned(x, i))
		}
	}
}

// P14.2: long texts count to their last byte.
func TestTurnedLong(t *testing.T) {
	secret := full(31, 32)
	p := public(t, secret)
	for _, n := range []int{63, 64, 65, 96, 127, 128, 129, 255, 256, 257, 1000} {
		s := full(200, n)
		x := signed(t, secret, s)
		for _, at := range []int{0, 1, n / 2, n - 2, n - 1} {
			verifies(t, false, "byte "+strconv.Itoa(at), p, turned(s, 8*at+7), x)
		}
	}
}

// P14.2: publics that have not 32 bytes, and signatures that have not 64, are none, though what is wanting were all 0, or what is too much were nothing.
func TestNotTheLength(t *testing.T) {
	secret, s := full(9, 32), "some text"
	p, x := public(t, secret), signed(t, secret, s)
	for _, n := range []int{0, 1, 16, 30, 31} {
		verifies(t, false, "a shorter public", p[:n], s, x)
		verifies(t, false, "a public without its first bytes", p[32-n:], s, x)
	}
	for _, n := range []int{0, 1, 31, 32, 33, 48, 62, 63} {
		verifies(t, false, "a shorter signature", p, s, x[:n])
		verifies(t, false, "a signature without its first bytes", p, s, x[64-n:])
	}
	for _, n := range []int{1, 2, 31, 32, 33, 64} {
		for _, c := range []byte{0, 1, 255} {
			verifies(t, false, "a longer public", p+full(c, n), s, x)
			verifies(t, false, "a public with more ahead", full(c, n)+p, s, x)
			verifies(t, false, "a longer signature", p, s, x+full(c, n))
			verifies(t, false, "a signature with more ahead", p, s, full(c, n)+x)
		}
	}
	verifies(t, false, "nothing at all", "", "", "")
	verifies(t, false, "a byte of the public in the text", p[:31], p[31:]+s, x)
	verifies(t, false, "a byte of the text in the public", p+s[:1], s[1:], x)
}

// P14.2: a signature whose last 32 bytes stand for the right number, but are not canonical, is none: L is added once, and as often as there is room.
func TestNotCanonical(t *testing.T) {
	r := rand.New(rand.NewSource(144))
	for range 10 {
		secret, s := drawn(r, 32), drawn(r, 40)
		p, x := public(t, secret), signed(t, secret, s)
		n := read(x[32:])
		for range 14 {
			n.Add(n, whole)
			if a, e := order.Of(write(n)); e != api.OK || a.Bytes() != x[32:] {
				t.Fatalf("%x is another number", write(n))
			}
			verifies(t, false, "L added", p, s, x[:32]+write(n))
		}
	}
}

// forged is a public and a signature that whoever knows a and r can make, with any two points of the eight added to both points: it holds, if k times the first one, and the other one, make the zero point.
func forged(t testing.TB, a, r *big.Int, beside, with edw.Point, s string) (string, string, bool) {
	t.Helper()
	p := times(t, a).Add(beside).Bytes()
	first := times(t, r).Add(with).Bytes()
	k := digest(first, p, s)
	rest := beside.Both(scalar(t, k), order.Scalar{}).Add(with)
	last := k.Mul(k, a).Add(k, r)
	return p, first + write(last.Mod(last, whole)), rest.Same(edw.Zero())
}

// P14.2: it is not enough that eight times both sides are one point: whatever of the eight is added to the public, or to the first half, counts.
func TestBesides(t *testing.T) {
	r := rand.New(rand.NewSource(145))
	count := map[bool]int{}
	for i, beside := range eight(t) {
		for j, with := range eight(t) {
			for n := range 8 {
				s := drawn(r, n)
				p, x, want := forged(t, read(drawn(r, 32)), read(drawn(r, 32)), beside, with, s)
				if want != library(p, s, x) {
					t.Fatalf("%d and %d of eight: the library takes it not as it is reckoned here", i, j)
				}
				verifies(t, want, strconv.Itoa(i)+" and "+strconv.Itoa(j)+" of eight", p, s, x)
				count[want]++
			}
		}
	}
	if count[true] < 40 || count[false] < 300 {
		t.Fatalf("%v say little", count)
	}
}

// P14.2: that eight times the public is not the zero point is all that is asked of it: the first half may be any point, and the zero point is one.
func TestFirstHalfOfEight(t *testing.T) {
	r := rand.New(rand.NewSource(146))
	for i, with := range eight(t) {
		for found := 0; found < 2; {
			s := drawn(r, 20)
			p, x, holds := forged(t, read(drawn(r, 32)), new(big.Int), eight(t)[1], with, s)
			verifies(t, holds, strconv.Itoa(i)+" of eight", p, s, x)
			if holds {
				found++
			}
		}
	}
	p, x, _ := forged(t, big.NewInt(1), new(big.Int), edw.Zero(), edw.Zero(), "some text")
	verifies(t, true, "the base point's own multiple", p, "some text", x)
}

// P14.2: a public of which eight times is the zero point is none, though all else holds.
func TestWeak(t *testing.T) {
	r := rand.New(rand.NewSource(147))
	for i, beside := range eight(t) {
		for found := 0; found < 8; {
			s := drawn(r, 20)
			p, x, holds := forged(t, new(big.Int), read(drawn(r, 32)), beside, eight(t)[r.Intn(8)], s)
			if holds != library(p, s, x) {
				t.Fatalf("%d of eight: the library takes it not as it is reckoned here", i)
			}
			if holds {
				found++
			}
			verifies(t, false, strconv.Itoa(i)+" of eight", p, s, x)
		}
	}
}

// other is bytes that are no point's, and the point that a reader who is not strict would take them for.
type other struct{ written, point string }

// others are those of the eight points that can be written in another way: their y and p, and an x of 0 as if it were odd.
func others() []other {
	one, zero, top := "\x01"+full(0, 31), full(0, 32), "\xec"+full(255, 30)+"\x7f"
	p, more := "\xed"+full(255, 30), "\xee"+full(255, 30)
	return []other{
		{p + "\x7f", zero},
		{p + "\xff", turned(zero, 255)},
		{more + "\x7f", one},
		{more + "\xff", one},
		{turned(one, 255), one},
		{turned(top, 255), top},
	}
}

// P14.2: a first half that is no point's bytes is none, though it stood for the right point.
func TestFirstHalfNoPoint(t *testing.T) {
	r := rand.New(rand.NewSource(148))
	for _, o := range others() {
		with := point(t, o.point)
		for found := 0; found < 3; {
			a, beside, s := read(drawn(r, 32)), eight(t)[1], drawn(r, 20)
			p := times(t, a).Add(beside).Bytes()
			k := digest(o.written, p, s)
			if beside.Both(scalar(t, k), order.Scalar{}).Add(with).Same(edw.Zero()) {
				found++
			}
			last := k.Mul(k, a)
			verifies(t, false, "no point's bytes", p, s, o.written+write(last.Mod(last, whole)))
		}
	}
}

// P14.2: a public that is no point's bytes is none, though all else would hold.
func TestPublicNoPoint(t *testing.T) {
	r := rand.New(rand.NewSource(149))
	for _, o := range others() {
		beside := point(t, o.point)
		for found := 0; found < 3; {
			n, s := read(drawn(r, 32)), drawn(r, 20)
			first := times(t, n).Bytes()
			k := digest(first, o.written, s)
			if beside.Both(scalar(t, k), order.Scalar{}).Same(edw.Zero()) {
				found++
			}
			verifies(t, false, "no point's bytes", o.written, s, first+write(n.Mod(n, whole)))
		}
	}
}

// noPoints are bytes that no reader takes for a point's: there is no x beside that y; and all that are at or above p.
func noPoints(t *testing.T) []string {
	l := []string{"\x02" + full(0, 31), "\x02" + full(0, 30) + "\x80", full(255, 32), full(255, 31) + "\x7f"}
	for n := range 19 {
		l = append(l, string([]byte{byte(0xed + n)})+full(255, 30)+"\x7f")
	}
	r := rand.New(rand.NewSource(150))
	for len(l) < 60 {
		s := drawn(r, 32)
		if _, e := edw.Decode(s); e == api.ErrPoint {
			l = append(l, s)
		}
	}
	return l
}

// P14.2, R1: bytes that are no point's, as the public, as the first half, and as both: it is none, and nothing panics.
func TestNoPoint(t *testing.T) {
	secret, s := full(77, 32), "some text"
	p, x := public(t, secret), signed(t, secret, s)
	for _, bad := range noPoints(t) {
		verifies(t, false, "public", bad, s, x)
		verifies(t, false, "first half", p, s, bad+x[32:])
		verifies(t, false, "both", bad, s, bad+x[32:])
		verifies(t, false, "both, and no number", bad, s, bad+full(0, 32))
	}
}

// P14.2: whatever is handed in, the answer is the library's: parts of signatures by several secrets, in each place.
func TestMixed(t *testing.T) {
	a, b := full(1, 32), full(2, 32)
	publics := []string{public(t, a), public(t, b)}
	texts := []string{"", "x"}
	var signatures []string
	for _, secret := range []string{a, b} {
		for _, s := range texts {
			signatures = append(signatures, signed(t, secret, s))
		}
	}
	count := 0
	for _, p := range publics {
		for _, s := range texts {
			for _, x := range signatures {
				for _, y := range signatures {
					mixed := x[:32] + y[32:]
					verifies(t, library(p, s, mixed), "mixed", p, s, mixed)
					verifies(t, false, "halves that changed places", p, s, y[32:]+x[:32])
					if sign.Verify(p, s, mixed) {
						count++
					}
				}
			}
		}
	}
	if count != 4 {
		t.Errorf("%d are verified, not 4", count)
	}
}

// P14.2, R1: any bytes are answered, and are no signature.
func TestDrawn(t *testing.T) {
	r := rand.New(rand.NewSource(151))
	for i := range 300 {
		verifies(t, false, "drawn", drawn(r, 32), drawn(r, i), drawn(r, 63)+string([]byte{byte(r.Intn(16))}))
	}
}
