package order_test

import (
	"math/big"
	"strings"
	"testing"

	"pharos/api"
	"pharos/order"
)

// low is L but its last byte.
const low = "\xed\xd3\xf5\x5c\x1a\x63\x12\x58\xd6\x9c\xf7\xa2\xde\xf9\xde\x14" + "\x00\x00\x00\x00\x00\x00\x00\x00\x00\x00\x00\x00\x00\x00\x00"

// none is n bytes 0.
func none(n int) string {
	return strings.Repeat("\x00", n)
}

// The chapter's examples.
func TestExamples(t *testing.T) {
	l := low + "\x10"
	if a, e := order.Of(l); e != api.OK || a.Bytes() != none(32) || order.Canonical(l) {
		t.Errorf("L: % x %v", a.Bytes(), e)
	}
	if s, e := order.Clamp(strings.Repeat("\xff", 32)); s != "\xf8"+strings.Repeat("\xff", 30)+"\x7f" || e != api.OK {
		t.Errorf("Clamp: % x %v", s, e)
	}
	if a, e := order.Of(none(33)); e != api.ErrArg || a.Bytes() != none(32) {
		t.Errorf("33 bytes: % x %v", a.Bytes(), e)
	}
	three, five, seven := of(t, big.NewInt(3)), of(t, big.NewInt(5)), of(t, big.NewInt(7))
	if s := three.MulAdd(five, seven).Bytes(); s != "\x16"+none(31) {
		t.Errorf("3 * 5 + 7: % x", s)
	}
}

// P7.1, P7.2: what comes in by 32 bytes is what they are modulo L, all 256 bits of it, and goes out by the canonical bytes; with 32 bytes 0 behind them it is the same.
func TestOf32(t *testing.T) {
	for _, n := range some(256, 1000) {
		is(t, "Of "+n.String(), of(t, n), n)
		long, e := order.Of(text(n, 64))
		if e != api.OK {
			t.Fatalf("Of %v in 64 bytes: %v", n, e)
		}
		is(t, "Of 64 "+n.String(), long, n)
	}
}

// P7.1, P7.2: of 64 bytes all 512 bits count.
func TestOf64(t *testing.T) {
	long := 0
	for _, n := range some(512, 2000) {
		is(t, "Of "+n.String(), of(t, n), n)
		if n.BitLen() > 256 {
			long++
		}
	}
	if long < 1000 {
		t.Fatalf("%d numbers say little", long)
	}
}

// P7.1: each bit counts where it stands.
func TestOfEachBit(t *testing.T) {
	for i := range uint(512) {
		var s [64]byte
		s[i/8] = 1 << (i % 8)
		a, e := order.Of(string(s[:]))
		if e != api.OK {
			t.Fatalf("bit %d: %v", i, e)
		}
		is(t, "a bit", a, power(i, 0))
		if i < 256 {
			a, e = order.Of(string(s[:32]))
			if e != api.OK {
				t.Fatalf("bit %d of 32 bytes: %v", i, e)
			}
			is(t, "a bit of 32 bytes", a, power(i, 0))
		}
	}
}

// P7.1, P7.2: the edges that are told by name, written out.
func TestOfAroundL(t *testing.T) {
	tail := low[1:]
	full := strings.Repeat("\xff", 31)
	for _, x := range []struct {
		name, s, want string
		canonical     bool
	}{
		{"0", none(32), none(32), true},
		{"1", "\x01" + none(31), "\x01" + none(31), true},
		{"L - 2", "\xeb" + tail + "\x10", "\xeb" + tail + "\x10", true},
		{"L - 1", "\xec" + tail + "\x10", "\xec" + tail + "\x10", true},
		{"L", "\xed" + tail + "\x10", none(32), false},
		{"L + 1", "\xee" + tail + "\x10", "\x01" + none(31), false},
		{"L + 2^64", low[:8] + "\xd7" + low[9:] + "\x10", none(8) + "\x01" + none(23), false},
		{"2^252 - 1", full + "\x0f", full + "\x0f", true},
		{"2^252", none(31) + "\x10", none(31) + "\x10", true},
		{"0 in 64 bytes", none(64), none(32), false},
		{"L in 64 bytes", low + "\x10" + none(32), none(32), false},
		{"L * 2^256", none(32) + low + "\x10", none(32), false},
		{"L * 2^256 + 5", "\x05" + none(31) + low + "\x10", "\x05" + none(31), false},
		{"L * 2^256 + L", low + "\x10" + low + "\x10", none(32), false},
		{"2^256 - 1", full + "\xff", "\x1c\x95\x98\x8d\x74\x31\xec\xd6\x70\xcf\x7d\x73\xf4\x5b\xef\xc6\xfe\xff\xff\xff\xff\xff\xff\xff\xff\xff\xff\xff\xff\xff\xff\x0f", false},
		{"2^512 - 1", full + "\xff" + full + "\xff", "\x00\x0f\x9c\x44\xe3\x11\x06\xa4\x47\x93\x85\x68\xa7\x1b\x0e\xd0\x65\xbe\xf5\x17\xd2\x73\xec\xce\x3d\x9a\x30\x7c\x1b\x41\x99\x03", false},
	} {
		if a, e := order.Of(x.s); e != api.OK || a.Bytes() != x.want {
			t.Errorf("Of of %s: % x %v, want % x", x.name, a.Bytes(), e, x.want)
		}
		if order.Canonical(x.s) != x.canonical {
			t.Errorf("Canonical of %s: %v", x.name, !x.canonical)
		}
	}
}

// P7.1, P7.4: bytes are canonical if there are 32 and what they are is below L; what is canonical is told by its bytes alone, which Of and Bytes leave as they are.
func TestCanonical(t *testing.T) {
	yes, l := 0, whole
	all := some(256, 2000)
	for _, n := range all {
		want := n.Cmp(l) < 0
		s := text(n, 32)
		if order.Canonical(s) != want {
			t.Fatalf("Canonical of %v: %v", n, !want)
		}
		a := of(t, n)
		if (a.Bytes() == s) != want || !order.Canonical(a.Bytes()) {
			t.Fatalf("Bytes of %v: % x", n, a.Bytes())
		}
		if want {
			yes++
		}
		if order.Canonical(text(n, 64)) {
			t.Fatalf("Canonical of %v in 64 bytes", n)
		}
	}
	if yes < 200 || len(all)-yes < 200 {
		t.Fatalf("%d of %d say little", yes, len(all))
	}
}

// P7.1, R2: texts that have neither 32 bytes nor 64 are ErrArg and 0, and not canonical, whatever is in them.
func TestNeither32Nor64Bytes(t *testing.T) {
	for _, n := range []int{0, 1, 8, 16, 24, 31, 33, 40, 48, 56, 63, 65, 72, 96, 128, 1000} {
		for _, c := range []string{"\x00", "\x01", "\xff"} {
			s := strings.Repeat(c, n)
			if a, e := order.Of(s); e != api.ErrArg || a.Bytes() != none(32) || !a.Same(order.Scalar{}) {
				t.Errorf("Of of %d bytes: % x %v", n, a.Bytes(), e)
			}
			if order.Canonical(s) {
				t.Errorf("Canonical of %d bytes", n)
			}
		}
	}
}
