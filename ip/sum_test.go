package ip_test

import (
	"math/rand"
	"testing"

	"pharos/ip"
)

func TestSum(t *testing.T) { // P18.1: by hand, and the example of RFC 1071
	for _, c := range []struct {
		s    string
		want uint16
	}{
		{"", 0xffff}, {"\x00", 0xffff}, {"\x00\x00\x00", 0xffff},
		{"\x12", 0xedff}, {"\x12\x34", 0xedcb}, {"\x12\x34\x56", 0x97cb}, // a last one alone is the high byte
		{"\xff", 0x00ff}, {"\x00\xff", 0xff00}, {"\xff\xff", 0}, {"\xff\xff\xff\xff", 0},
		{"\xff\xff\x00\x01", 0xfffe}, {"\x80\x00\x80\x00", 0xfffe}, // what goes beyond is added at the low end
		{"\xff\xfe\x00\x01", 0}, {"\xff\xff\xff\xff\x00\x01", 0xfffe},
		{"\x00\x01\xf2\x03\xf4\xf5\xf6\xf7", 0x220d},
		{"\x45\x00\x00\x73\x00\x00\x40\x00\x40\x11\x00\x00\xc0\xa8\x00\x01\xc0\xa8\x00\xc7", 0xb861},
		{"\x45\x00\x00\x73\x00\x00\x40\x00\x40\x11\xb8\x61\xc0\xa8\x00\x01\xc0\xa8\x00\xc7", 0},
	} {
		if n := ip.Sum(c.s); n != c.want {
			t.Errorf("Sum(%x): %x, want %x", c.s, n, c.want)
		}
	}
}

func TestSumOfTwo(t *testing.T) { // P18.1: of every two bytes, and of every byte behind them
	for n := range 65536 {
		s := told(n)
		if got := ip.Sum(s); got != uint16(65535-n) {
			t.Fatalf("Sum(%x): %x", s, got)
		}
		if last := s + told(n * 7)[1:]; ip.Sum(last) != modelSum(last) {
			t.Fatalf("Sum(%x): %x, want %x", last, ip.Sum(last), modelSum(last))
		}
	}
}

func TestSumLong(t *testing.T) { // P18.1: much goes beyond 16 bits, and beyond 32
	for _, n := range []int{1499, 1500, 65535, 65536, 131072, 131074, 131075, 1<<20 + 1, 1 << 23} {
		for _, b := range []byte{1, 0x7f, 0x80, 0xfe, 0xff} {
			if got, want := ip.Sum(full(b, n)), modelSum(full(b, n)); got != want {
				t.Errorf("Sum of %d bytes %x: %x, want %x", n, b, got, want)
			}
		}
	}
}

func TestSumDrawn(t *testing.T) { // P18.1: all lengths; and a sum that stands in its place makes it 0
	d := rand.New(rand.NewSource(18))
	for n := range 3000 {
		s := drawn(d, n)
		if got, want := ip.Sum(s), modelSum(s); got != want {
			t.Fatalf("Sum of %d bytes: %x, want %x", n, got, want)
		}
		if n%2 == 0 && ip.Sum(s+told(int(ip.Sum(s)))) != 0 {
			t.Fatalf("Sum of %d bytes and their sum: %x", n, ip.Sum(s+told(int(ip.Sum(s)))))
		}
	}
}
