package num_test

import (
	"math"
	"math/big"
	"strings"
	"testing"

	"pharos/api"
	"pharos/num"
)

// The chapter's examples.
func TestExamples(t *testing.T) {
	p := "\xed" + strings.Repeat("\xff", 30) + "\x7f"
	a, e := num.Of(p)
	if e != api.OK || a.Bytes() != strings.Repeat("\x00", 32) || num.Canonical(p) {
		t.Error("p")
	}
	one, two := num.Small(1), num.Small(2)
	if two.Mul(two.Inv()).Bytes() != "\x01"+strings.Repeat("\x00", 31) {
		t.Error("2 and its Inv")
	}
	for _, x := range []struct {
		of, root uint32
		odd, is  bool
	}{{4, 2, false, true}, {2, 0, true, false}, {0, 0, true, false}} {
		if r, is := num.Small(x.of).Root(x.odd); is != x.is || r.Bytes() != num.Small(x.root).Bytes() {
			t.Errorf("Root of %d: % x %v", x.of, r.Bytes(), is)
		}
	}
	if num.Select(true, one, two).Bytes() != two.Bytes() || num.Select(false, one, two).Bytes() != one.Bytes() {
		t.Error("Select")
	}
}

// P6.1, P6.2: what comes in by 32 bytes is what they are modulo p, all 256 bits of it, and goes out by the canonical bytes.
func TestOfIsModuloP(t *testing.T) {
	for _, n := range some(2000) {
		is(t, "Of "+n.String(), of(t, n), n)
	}
}

// P6.1: each bit counts where it stands.
func TestOfEachBit(t *testing.T) {
	for i := range uint(256) {
		n := power(i, 0)
		is(t, "Of "+n.String(), of(t, n), n)
		var s [32]byte
		s[i/8] = 1 << (i % 8)
		if a, e := num.Of(string(s[:])); e != api.OK || a.Bytes() != text(mod(n)) {
			t.Fatalf("bit %d: % x %v", i, a.Bytes(), e)
		}
	}
}

// P6.1: the edges that are told by name, written out.
func TestOfAroundP(t *testing.T) {
	full := strings.Repeat("\xff", 30)
	none := strings.Repeat("\x00", 30)
	for _, x := range []struct {
		name, s   string
		low       string // the lowest byte of what it is; all others are 0, unless big
		big       string
		canonical bool
	}{
		{"0", "\x00" + none + "\x00", "\x00", "", true},
		{"1", "\x01" + none + "\x00", "\x01", "", true},
		{"p - 2", "\xeb" + full + "\x7f", "", "\xeb" + full + "\x7f", true},
		{"p - 1", "\xec" + full + "\x7f", "", "\xec" + full + "\x7f", true},
		{"p", "\xed" + full + "\x7f", "\x00", "", false},
		{"p + 1", "\xee" + full + "\x7f", "\x01", "", false},
		{"2^255 - 1", "\xff" + full + "\x7f", "\x12", "", false},
		{"2^255", "\x00" + none + "\x80", "\x13", "", false},
		{"2^255 + 1", "\x01" + none + "\x80", "\x14", "", false},
		{"2p - 1", "\xd9" + full + "\xff", "", "\xec" + full + "\x7f", false},
		{"2p", "\xda" + full + "\xff", "\x00", "", false},
		{"2p + 1", "\xdb" + full + "\xff", "\x01", "", false},
		{"2^256 - 1", "\xff" + full + "\xff", "\x25", "", false},
	} {
		want := x.big
		if want == "" {
			want = x.low + none + "\x00"
		}
		if a, e := num.Of(x.s); e != api.OK || a.Bytes() != want {
			t.Errorf("Of of %s: % x %v, want % x", x.name, a.Bytes(), e, want)
		}
		if num.Canonical(x.s) != x.canonical {
			t.Errorf("Canonical of %s: %v", x.name, !x.canonical)
		}
	}
}

// P6.1: bytes are canonical if what they are is below p.
func TestCanonical(t *testing.T) {
	yes, p := 0, prime()
	all := some(2000)
	for _, n := range all {
		want := n.Cmp(p) < 0
		if num.Canonical(text(n)) != want {
			t.Fatalf("Canonical of %v: %v", n, !want)
		}
		if want {
			yes++
		}
		if !num.Canonical(of(t, n).Bytes()) {
			t.Fatalf("Bytes of %v are not canonical", n)
		}
	}
	if yes < 200 || len(all)-yes < 200 {
		t.Fatalf("%d of %d say little", yes, len(all))
	}
}

// P6.1, R2: texts that have not 32 bytes are ErrArg and 0, and not canonical, whatever is in them.
func TestNot32Bytes(t *testing.T) {
	for _, n := range []int{0, 1, 8, 16, 30, 31, 33, 34, 63, 64, 65, 1000} {
		for _, c := range []string{"\x00", "\x01", "\xff"} {
			s := strings.Repeat(c, n)
			if a, e := num.Of(s); e != api.ErrArg || a.Bytes() != text(new(big.Int)) {
				t.Errorf("Of of %d bytes: % x %v", n, a.Bytes(), e)
			}
			if num.Canonical(s) {
				t.Errorf("Canonical of %d bytes", n)
			}
		}
	}
}

// P6.1: Small is n, up to the greatest one.
func TestSmall(t *testing.T) {
	for _, n := range []uint32{0, 1, 2, 18, 19, 20, 255, 256, 65535, 65536, 1 << 31, math.MaxUint32 - 1, math.MaxUint32} {
		is(t, "Small", num.Small(n), big.NewInt(int64(n)))
	}
}

// P6.1: Select is the second, if it is said, else the first: of each bit, of both sides, of equal ones.
func TestSelect(t *testing.T) {
	all := some(50)
	for i, m := range all {
		for _, n := range all[i:] {
			a, b := of(t, m), of(t, n)
			is(t, "Select false", num.Select(false, a, b), m)
			is(t, "Select true", num.Select(true, a, b), n)
			is(t, "Select false", num.Select(false, b, a), n)
			is(t, "Select true", num.Select(true, b, a), m)
		}
	}
}

// The zero Elem is 0, in every call.
func TestZeroElem(t *testing.T) {
	var zero num.Elem
	none, five := new(big.Int), big.NewInt(5)
	is(t, "Bytes", zero, none)
	is(t, "Add", zero.Add(num.Small(5)), five)
	is(t, "Add to it", num.Small(5).Add(zero), five)
	is(t, "Sub", zero.Sub(num.Small(5)), big.NewInt(-5))
	is(t, "Sub of it", num.Small(5).Sub(zero), five)
	is(t, "Mul", zero.Mul(num.Small(5)), none)
	is(t, "Mul by it", num.Small(5).Mul(zero), none)
	is(t, "Inv", zero.Inv(), none)
	is(t, "Select", num.Select(true, num.Small(5), zero), none)
	if !zero.Same(num.Small(0)) || zero.Same(num.Small(1)) || !zero.Same(of(t, prime())) || zero.Odd() {
		t.Error("Same or Odd of the zero Elem")
	}
	if r, has := zero.Root(false); !has || !r.Same(zero) {
		t.Error("the root of the zero Elem")
	}
	if r, has := zero.Root(true); has || !r.Same(zero) {
		t.Error("an odd root of the zero Elem")
	}
}
