package edw_test

import (
	"math/big"
	"math/rand"
	"testing"

	"pharos/api"
	"pharos/edw"
)

// P9.1: the zero point is (0, 1), the base point is that of the bytes 88 and 31 bytes 102.
func TestZeroAndBase(t *testing.T) {
	if s := edw.Zero().Bytes(); s != "\x01"+rep(0, 31) {
		t.Errorf("Zero: %x", s)
	}
	if s := edw.Base().Bytes(); s != "\x58"+rep(102, 31) {
		t.Errorf("Base: %x", s)
	}
	is(t, "Zero", edw.Zero(), nought)
	is(t, "Base", edw.Base(), base)
	if edw.Zero().Same(edw.Base()) || edw.Base().Same(edw.Zero()) {
		t.Error("Zero is Base")
	}
}

// The model's own points are some of the curve, and of the order that they are said to have.
func TestModel(t *testing.T) {
	all := some(20)
	multiples := 0
	for _, a := range all {
		if !a.lies() {
			t.Fatalf("%x does not lie on the curve", a.bytes())
		}
		if a.times(whole).same(nought) {
			multiples++
		}
	}
	if multiples < 6 || len(all)-multiples < 40 {
		t.Fatalf("%d of %d say little", multiples, len(all))
	}
	for i, a := range eight() {
		for j, b := range eight() {
			if a.same(b) != (i == j) {
				t.Fatalf("%d and %d of eight", i, j)
			}
		}
		if !a.times(small(8)).same(nought) {
			t.Fatalf("%d of eight", i)
		}
	}
}

// P9.2: what was told by bytes has these bytes again, whichever point it is.
func TestThereAndBack(t *testing.T) {
	for _, a := range some(100) {
		p, e := edw.Decode(a.bytes())
		if e != api.OK || p.Bytes() != a.bytes() {
			t.Fatalf("%x: %x %v", a.bytes(), p.Bytes(), e)
		}
	}
}

// P9.2: what was told by bytes is the point with that x and y, not only with those bytes: it is added as that one is.
func TestDecodeIsThatPoint(t *testing.T) {
	for _, a := range some(50) {
		is(t, "with the base point", of(t, a).Add(edw.Base()), a.plus(base))
		is(t, "twice", of(t, a).Twice(), a.plus(a))
	}
}

// ask holds Decode against the model: the point with that y and that bit, or ErrPoint and none.
func ask(t *testing.T, y *big.Int, bit uint) bool {
	t.Helper()
	s := text(new(big.Int).Add(y, new(big.Int).Lsh(small(int64(bit)), 255)))
	p, e := edw.Decode(s)
	want, there := spot{}, false
	if y.Cmp(prime) < 0 {
		want, there = find(y, bit)
	}
	if !there {
		if e != api.ErrPoint {
			t.Fatalf("%x: %v", s, e)
		}
		isNone(t, "what is beside ErrPoint", p)
		return false
	}
	if e != api.OK || p.Bytes() != s {
		t.Fatalf("%x: %x %v", s, p.Bytes(), e)
	}
	is(t, "the point", p, want)
	return true
}

// P9.2: of any bytes, about half are a point; whether one is, does not hang on the highest bit, but where x is 0.
func TestDecodeDrawn(t *testing.T) {
	r := rand.New(rand.NewSource(92))
	points := 0
	for range 500 {
		y := new(big.Int).Rand(r, prime)
		odd, even := ask(t, y, 1), ask(t, y, 0)
		if odd != even {
			t.Fatalf("%v: %v and %v", y, odd, even)
		}
		if odd {
			points++
		}
	}
	if points < 200 || points > 300 {
		t.Fatalf("%d of 500", points)
	}
}

// P9.2: the least y that there are, and the greatest: some are points and some are not.
func TestDecodeEnds(t *testing.T) {
	points := 0
	for n := range int64(100) {
		for _, y := range []*big.Int{small(n), sub(small(-1), small(n))} {
			for bit := range uint(2) {
				if ask(t, y, bit) {
					points++
				}
			}
		}
	}
	if points < 100 || points > 300 {
		t.Fatalf("%d of 400", points)
	}
}

// P9.2: bytes at and above p are no point, whatever they are modulo p and whatever the highest bit is: all 19 of them.
func TestDecodeNotCanonical(t *testing.T) {
	points := 0
	for n := range int64(19) {
		for bit := range uint(2) {
			if _, there := find(small(n), bit); there {
				points++
			}
			if ask(t, new(big.Int).Add(prime, small(n)), bit) {
				t.Fatalf("p and %d", n)
			}
		}
	}
	if points < 10 {
		t.Fatalf("%d would be points: that says little", points)
	}
}

// P9.2: an x of 0 is not odd: the two points that have it are told without the bit alone.
func TestDecodeNoX(t *testing.T) {
	top := "\xec" + rep(255, 30)
	for _, x := range []struct {
		s string
		e api.Errno
	}{
		{"\x01" + rep(0, 31), api.OK},
		{"\x01" + rep(0, 30) + "\x80", api.ErrPoint},
		{top + "\x7f", api.OK},
		{top + "\xff", api.ErrPoint},
	} {
		p, e := edw.Decode(x.s)
		if e != x.e {
			t.Errorf("%x: %v", x.s, e)
		}
		if e == api.OK && p.Bytes() != x.s {
			t.Errorf("%x: %x", x.s, p.Bytes())
		}
		if e != api.OK {
			isNone(t, "an odd 0", p)
		}
	}
}

// P9.2: a y of 0 has two points, of which four make the zero point.
func TestDecodeNoY(t *testing.T) {
	for _, s := range []string{rep(0, 32), rep(0, 31) + "\x80"} {
		p, e := edw.Decode(s)
		if e != api.OK || p.Bytes() != s {
			t.Fatalf("%x: %x %v", s, p.Bytes(), e)
		}
		if p.Twice().Same(edw.Zero()) || !p.Twice().Twice().Same(edw.Zero()) {
			t.Errorf("%x: twice %x", s, p.Twice().Bytes())
		}
	}
}

// P9.2, R2: texts that have not 32 bytes are ErrArg, whatever is in them, and ahead of ErrPoint.
func TestDecodeNot32Bytes(t *testing.T) {
	for _, n := range []int{0, 1, 16, 30, 31, 33, 34, 63, 64, 65, 1000} {
		for _, c := range []byte{0, 1, 102, 127, 128, 255} {
			p, e := edw.Decode(rep(c, n))
			if e != api.ErrArg {
				t.Errorf("%d bytes %d: %v", n, c, e)
			}
			isNone(t, "what is beside ErrArg", p)
		}
	}
	for _, s := range []string{edw.Base().Bytes() + "\x00", edw.Base().Bytes()[:31]} {
		if _, e := edw.Decode(s); e != api.ErrArg {
			t.Errorf("%x: %v", s, e)
		}
	}
}

// The chapter's examples.
func TestExamples(t *testing.T) {
	if edw.Zero().Bytes() != "\x01"+rep(0, 31) || !edw.Base().Twice().Same(edw.Base().Add(edw.Base())) {
		t.Error("Zero or Twice")
	}
	for _, s := range []string{rep(255, 31) + "\x7f", "\x01" + rep(0, 30) + "\x80", "\x02" + rep(0, 31)} {
		p, e := edw.Decode(s)
		if e != api.ErrPoint {
			t.Errorf("%x: %v", s, e)
		}
		isNone(t, "what is beside ErrPoint", p)
	}
	if (edw.Point{}).Bytes() != "" || (edw.Point{}).Same(edw.Point{}) {
		t.Error("none")
	}
}
