package seg_test

import (
	"math/rand"
	"testing"

	"pharos/api"
	"pharos/seg"
)

func TestSum(t *testing.T) { // P19.1: values told by hand
	for _, c := range []struct {
		s        string
		src, dst uint32
		want     uint16
	}{
		{"", 0, 0, 0xfff9},
		{"", 1, 2, 0xfff6},
		{"", 0x00010000, 0x00020000, 0xfff6},
		{"a", 0, 0, 0x9ef8},
		{"\x00a", 0, 0, 0xff96},
		{"ab", 0, 0, 0x9e95},
		{"abc", 0, 0, 0x3b94},
		{"\xff\xf9", 0, 0, 0xfffd}, // 6 + 2 + fff9 = 1 0001
		{"\xff\xf7", 0, 0, 0x0000},
		{"", 0xffffffff, 0xffffffff, 0xfff9},
		{"", 0xfff90000, 0, 0x0000},
	} {
		if n := seg.Sum(c.s, c.src, c.dst); n != c.want || n != modelSum(c.s, c.src, c.dst) {
			t.Errorf("Sum(%q, %x, %x): %04x, want %04x", c.s, c.src, c.dst, n, c.want)
		}
	}
}

func TestSums(t *testing.T) { // P19.1: by the chapters' words, of all lengths that a packet may have, and of longer ones
	d := rand.New(rand.NewSource(1))
	check := func(s string) {
		t.Helper()
		src, dst := d.Uint32(), d.Uint32()
		if n, want := seg.Sum(s, src, dst), modelSum(s, src, dst); n != want {
			t.Fatalf("Sum of %d bytes: %04x, want %04x", len(s), n, want)
		}
	}
	for n := range 1501 {
		check(drawn(d, n))
		check(full(0, n))
		check(full(0xff, n))
	}
	for _, n := range []int{65534, 65535, 65536, 65537, 1 << 20} { // two bytes of the length are all there are
		check(drawn(d, n))
		check(full(0, n))
	}
}

func TestEncode(t *testing.T) { // P19.1: byte by byte
	for _, c := range []struct {
		g        api.Seg
		src, dst uint32
		want     string
	}{
		{api.Seg{}, 0, 0, full(0, 12) + "\x50\x00\x00\x00\xaf\xe5\x00\x00"},
		{api.Seg{}, 1, 2, full(0, 12) + "\x50\x00\x00\x00\xaf\xe2\x00\x00"},
		{api.Seg{Src: 0x0102, Dst: 0x0304, Seq: 0x05060708, Ack: 0x090a0b0c, Flags: api.Ack | api.Psh, Wnd: 0x0d0e, Data: "a"}, 0, 0,
			"\x01\x02\x03\x04\x05\x06\x07\x08\x09\x0a\x0b\x0c\x50\x18\x0d\x0e\x1d\x94\x00\x00a"},
		{api.Seg{Flags: api.Syn, Mss: 0x1234}, 0, 0, full(0, 12) + "\x60\x02\x00\x00\x8b\xa7\x00\x00\x02\x04\x12\x34"},
		{api.Seg{Flags: api.Syn, HasScale: true}, 0, 0, full(0, 12) + "\x60\x02\x00\x00\x9b\xdc\x00\x00\x01\x03\x03\x00"},
		{api.Seg{Flags: api.Syn, HasScale: true, Scale: 14}, 0, 0, full(0, 12) + "\x60\x02\x00\x00\x9b\xce\x00\x00\x01\x03\x03\x0e"},
		{api.Seg{Flags: api.Syn, Mss: 1460, HasScale: true, Scale: 7}, 0, 0, full(0, 12) + "\x70\x02\x00\x00\x84\x19\x00\x00\x02\x04\x05\xb4\x01\x03\x03\x07"},
		{api.Seg{Flags: 0xff, Mss: 0xffff, Data: "ab"}, 0, 0, full(0, 12) + "\x60\xff\x00\x00\x3b\x7a\x00\x00\x02\x04\xff\xffab"},
	} {
		if summed(c.want, c.src, c.dst) != c.want {
			t.Errorf("the sum of %x is %x", c.want, modelSum(c.want[:16]+"\x00\x00"+c.want[18:], c.src, c.dst))
			continue
		}
		encodes(t, c.g, c.src, c.dst, c.want)
	}
	if api.Fin != 1 || api.Syn != 2 || api.Rst != 4 || api.Psh != 8 || api.Ack != 16 || api.MaxSeg != 1460 {
		t.Error("the numbers are others")
	}
}

func TestEncodeAllSums(t *testing.T) { // P19.1: whatever the sum is, 0 too, the sum of all is 0
	seen := map[string]bool{}
	for n := range 65536 {
		s, e := seg.Encode(api.Seg{Src: uint16(n)}, there, here)
		if e != api.OK || len(s) != 20 || seg.Sum(s, there, here) != 0 {
			t.Fatalf("Encode, Src %d: %x %v", n, s, e)
		}
		seen[s[16:18]] = true
	}
	if len(seen) != 65535 || !seen["\x00\x00"] || seen["\xff\xff"] {
		t.Errorf("%d sums", len(seen))
	}
}

func TestEncodeOptions(t *testing.T) { // P19.1: ErrArg, unless they are such as a Syn may have
	for flags := range 256 {
		for _, mss := range []uint16{0, 1, 1460, 65535} {
			for _, has := range []bool{false, true} {
				for scale := range 256 {
					g := plain(uint8(flags), "data")
					g.Mss, g.HasScale, g.Scale = mss, has, uint8(scale)
					s, e := seg.Encode(g, there, here)
					wrong := scale > 14 || scale > 0 && !has || flags&2 == 0 && (has || mss > 0)
					if wrong != (e == api.ErrArg) || wrong != (s == "") || !wrong && e != api.OK {
						t.Fatalf("Encode(%s): %x %v", brief(g), s, e)
					}
				}
			}
		}
	}
}

func TestEncodeWrong(t *testing.T) { // P19.1: each error, its edges, and ErrArg ahead of ErrLong
	d := rand.New(rand.NewSource(2))
	long := drawn(d, 1461)
	for _, c := range []struct {
		what string
		g    api.Seg
		want api.Errno
	}{
		{"a Mss without Syn", api.Seg{Flags: api.Ack, Mss: 1460}, api.ErrArg},
		{"the least Mss without Syn", api.Seg{Mss: 1}, api.ErrArg},
		{"a Mss with all but Syn", api.Seg{Flags: 0xfd, Mss: 1460}, api.ErrArg},
		{"a scale of 0 without Syn", api.Seg{Flags: api.Ack, HasScale: true}, api.ErrArg},
		{"a scale of 7 without Syn", api.Seg{Flags: api.Fin, HasScale: true, Scale: 7}, api.ErrArg},
		{"a scale that it has not", api.Seg{Flags: api.Syn, Scale: 1}, api.ErrArg},
		{"a scale that it has not, without Syn", api.Seg{Flags: api.Ack, Scale: 14}, api.ErrArg},
		{"a scale of 15", api.Seg{Flags: api.Syn, HasScale: true, Scale: 15}, api.ErrArg},
		{"a scale of 255", api.Seg{Flags: api.Syn, HasScale: true, Scale: 255}, api.ErrArg},
		{"a scale of 15 that it has not", api.Seg{Flags: api.Syn, Scale: 15}, api.ErrArg},
		{"1,461 bytes", api.Seg{Flags: api.Ack, Data: long}, api.ErrLong},
		{"1,461 bytes with options", api.Seg{Flags: api.Syn, Mss: 1, HasScale: true, Scale: 14, Data: long}, api.ErrLong},
		{"65,536 bytes", api.Seg{Data: full('x', 65536)}, api.ErrLong},
		{"1,461 bytes, and a Mss without Syn", api.Seg{Mss: 1, Data: long}, api.ErrArg},
		{"1,461 bytes, and a scale of 15", api.Seg{Flags: api.Syn, HasScale: true, Scale: 15, Data: long}, api.ErrArg},
		{"1,461 bytes, and a scale that it has not", api.Seg{Flags: api.Syn, Scale: 1, Data: long}, api.ErrArg},
	} {
		t.Run(c.what, func(t *testing.T) { keeps(t, c.g, c.want) })
	}
	for _, n := range []int{0, 1, 1459, 1460} { // up to the limit, with all options too
		g := agreed(1460, true, 14)
		g.Data = long[:n]
		encodes(t, g, there, here, bytesOf(7, api.Syn, "\x02\x04\x05\xb4\x01\x03\x03\x0e", long[:n]))
		encodes(t, plain(api.Ack, long[:n]), there, here, bytesOf(5, api.Ack, "", long[:n]))
	}
}

func TestLen(t *testing.T) { // P19.1: each flag, alone and with others, whatever else there is
	for flags := range 256 {
		for _, data := range []string{"", "a", "ab", full('x', 1460), full('x', 1<<17)} {
			want := uint32(len(data) + flags&1 + flags>>1&1)
			for _, g := range []api.Seg{
				{Flags: uint8(flags), Data: data},
				{Flags: uint8(flags), Data: data, Src: 1, Dst: 2, Seq: 1<<32 - 1, Ack: 9, Wnd: 8, Mss: 7, HasScale: true, Scale: 77},
			} {
				if n := seg.Len(g); n != want {
					t.Fatalf("Len(%s): %d, want %d", brief(g), n, want)
				}
			}
		}
	}
}
