package aead

import (
	"math/big"
	"math/rand"
	"slices"
	"testing"
)

// value is what the digits of a number make together.
func value(a number) *big.Int {
	sum := new(big.Int)
	for i, x := range a {
		part := new(big.Int).SetUint64(x)
		sum.Add(sum, part.Lsh(part, uint(26*i)))
	}
	return sum
}

// prime is 2^130 - 5.
func prime() *big.Int {
	p := new(big.Int).Lsh(big.NewInt(1), 130)
	return p.Sub(p, big.NewInt(5))
}

// like demands that a is x modulo 2^130 - 5.
func like(t *testing.T, what string, a number, x *big.Int) {
	t.Helper()
	got, want := value(a), new(big.Int).Mod(x, prime())
	if got.Mod(got, prime()).Cmp(want) != 0 {
		t.Fatalf("%s: %v, want %x", what, a, want)
	}
}

// digits are numbers whose digits are below a bound: all of them 0 or one less than it, some at the edge of a digit, and some drawn.
func digits(bound uint64) []number {
	r := rand.New(rand.NewSource(13))
	var l []number
	for which := range 32 {
		var a number
		for i := range a {
			a[i] = uint64(which>>i&1) * (bound - 1)
		}
		l = append(l, a)
	}
	edges := []uint64{0, 1, 1<<26 - 6, 1<<26 - 5, 1<<26 - 1, bound - 2, bound - 1}
	for range 200 {
		var a, b number
		for i := range a {
			a[i] = edges[r.Intn(len(edges))] % bound
			b[i] = r.Uint64() % bound
		}
		l = append(l, a, b)
	}
	return l
}

// P13.1, W6: the words that RFC 8439, 2.1.1 mixes.
func TestMixKnown(t *testing.T) {
	a, b, c, d := uint32(0x11111111), uint32(0x01020304), uint32(0x9b8d6f43), uint32(0x01234567)
	mix(&a, &b, &c, &d)
	if a != 0xea2a92f4 || b != 0xcb1cf8ce || c != 0x4581472e || d != 0x5881c4bb {
		t.Errorf("%x %x %x %x", a, b, c, d)
	}
}

// Ways: each word stands in one of the first four rows and in one of the last four; words are handed on by value.
func TestRows(t *testing.T) {
	for half := range 2 {
		var all []int
		for _, row := range rows[4*half : 4*half+4] {
			all = append(all, row[:]...)
		}
		slices.Sort(all)
		for i, x := range all {
			if i != x {
				t.Fatalf("%v", all)
			}
		}
	}
	w := lay("01234567890123456789012345678901", "012345678901")
	before := w
	w.mixed()
	w.block(7)
	w.turn("text")
	w.tag("ad", "text")
	if w != before {
		t.Error("the words were changed")
	}
}

// P13.2: products of digits as great as they may be come to the right number, below 2^130, and nothing is lost above 64 bits.
func TestTimes(t *testing.T) {
	all := digits(1 << 27)
	for _, a := range all {
		for _, b := range all {
			c := a.times(b)
			like(t, "a product", c, new(big.Int).Mul(value(a), value(b)))
			settledIs(t, c)
		}
	}
}

// settledIs demands that a number is as a settled one is.
func settledIs(t *testing.T, a number) {
	t.Helper()
	if value(a).BitLen() > 130 || a[0] >= 1<<26+5 {
		t.Fatalf("not settled: %v", a)
	}
	for _, x := range a[1:] {
		if x >= 1<<26 {
			t.Fatalf("not settled: %v", a)
		}
	}
}

// P13.2: a settled number is made less than 2^130 - 5, and stays the same modulo it; at the edge, too.
func TestLeast(t *testing.T) {
	p := prime()
	for _, a := range digits(1 << 26) {
		if got := value(a.least()); got.Cmp(new(big.Int).Mod(value(a), p)) != 0 {
			t.Fatalf("%v: %x", a, got)
		}
	}
	top := uint64(1<<26 - 1)
	for low := top - 20; low <= top; low++ {
		a := number{low, top, top, top, top}
		if got := value(a.least()); got.Cmp(new(big.Int).Mod(value(a), p)) != 0 {
			t.Fatalf("%v: %x", a, got)
		}
	}
	for low := top - 20; low < top+6; low++ { // the lowest digit may be above its bits
		for _, a := range []number{{low}, {low, 1}, {low, top, top, top, top - 1}} {
			if got := value(a.least()); got.Cmp(value(a)) != 0 {
				t.Fatalf("%v: %x", a, got)
			}
		}
	}
}

// P13.2: bytes that are read are written again, whatever the digits are that they fall into, and no digit has more bits than its own.
func TestReadAndWrite(t *testing.T) {
	r := rand.New(rand.NewSource(14))
	for range 2000 {
		b := make([]byte, 16)
		for i := range b {
			b[i] = []byte{0, 1, 127, 128, 255, byte(r.Intn(256))}[r.Intn(6)]
		}
		a := read(b)
		if slices.Max(a[:]) >= 1<<26 {
			t.Fatalf("%x: %v", b, a)
		}
		if got := a.write(); got != string(b) {
			t.Fatalf("%x: %x", b, got)
		}
	}
}

// P13.2: a part of a text is told from that with a byte 0 more, and is not changed.
func TestEnded(t *testing.T) {
	text := []byte("\xff\x00\x00\x00\x00\x00\x00\x00\x00\x00\x00\x00\x00\x00\x00\x00\x55")
	for n := range 17 {
		want := new(big.Int).Lsh(big.NewInt(1), uint(8*n))
		if n > 0 {
			want.Add(want, big.NewInt(255))
		}
		if a := ended(text[:n]); value(a).Cmp(want) != 0 || slices.Max(a[:]) >= 1<<26 {
			t.Errorf("%d bytes: %v", n, a)
		}
	}
	if text[0] != 255 || slices.Max(text[1:16]) != 0 || text[16] != 0x55 {
		t.Errorf("%x", text)
	}
}
