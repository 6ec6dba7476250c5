package order_test

import (
	"math/rand"
	"strings"
	"testing"

	"pharos/api"
	"pharos/order"
)

// P7.3: each bit of 32 bytes is kept, but the five that are told, which are as they are told.
func TestClampEachBit(t *testing.T) {
	r := rand.New(rand.NewSource(73))
	for i := range 256 {
		for range 4 {
			b := make([]byte, 32)
			r.Read(b)
			for range 2 {
				b[i/8] ^= 1 << (i % 8)
				s, e := order.Clamp(string(b))
				if e != api.OK || len(s) != 32 {
					t.Fatalf("Clamp: %d bytes, %v", len(s), e)
				}
				want := b[i/8] >> (i % 8) & 1
				switch i {
				case 0, 1, 2, 255:
					want = 0
				case 254:
					want = 1
				}
				if got := s[i/8] >> (i % 8) & 1; got != want {
					t.Fatalf("bit %d: %d of %d", i, got, want)
				}
			}
		}
	}
}

// P7.3: what was clamped stays as it is; zeros and all bits set, written out.
func TestClampEdges(t *testing.T) {
	for _, x := range []struct{ s, want string }{
		{none(32), none(31) + "\x40"},
		{strings.Repeat("\xff", 32), "\xf8" + strings.Repeat("\xff", 30) + "\x7f"},
		{"\x07" + none(30) + "\x80", none(31) + "\x40"},
		{"\x08" + none(30) + "\x3f", "\x08" + none(30) + "\x7f"},
		{strings.Repeat("\xe7", 32), "\xe0" + strings.Repeat("\xe7", 30) + "\x67"},
	} {
		once, e := order.Clamp(x.s)
		if e != api.OK || once != x.want {
			t.Errorf("Clamp of % x: % x %v", x.s, once, e)
		}
		if twice, e := order.Clamp(once); e != api.OK || twice != once {
			t.Errorf("Clamp of % x: % x %v", once, twice, e)
		}
	}
}

// P7.3, R2: texts that have not 32 bytes are ErrArg and nothing.
func TestClampNot32Bytes(t *testing.T) {
	for _, n := range []int{0, 1, 8, 31, 33, 63, 64, 65, 1000} {
		for _, c := range []string{"\x00", "\xff"} {
			if s, e := order.Clamp(strings.Repeat(c, n)); s != "" || e != api.ErrArg {
				t.Errorf("Clamp of %d bytes: % x %v", n, s, e)
			}
		}
	}
}
