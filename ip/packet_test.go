package ip_test

import (
	"math/rand"
	"testing"

	"pharos/api"
	"pharos/ip"
)

func TestEncode(t *testing.T) { // P18.1: byte by byte
	for _, c := range []struct {
		p    api.Packet
		want string
	}{
		{api.Packet{}, "\x45\x00\x00\x14\x00\x00\x00\x00\x00\x00\xba\xeb" + full(0, 8)},
		{api.Packet{Src: 0xc0a80001, Dst: 0xc0a800c7, Proto: 17, TTL: 64, Stay: true, Data: full('x', 95)},
			"\x45\x00\x00\x73\x00\x00\x40\x00\x40\x11\xb8\x61\xc0\xa8\x00\x01\xc0\xa8\x00\xc7" + full('x', 95)},
		{api.Packet{Src: 0x01020304, Dst: 0x05060708, Proto: 0x09, TTL: 0x0a, ID: 0x0b0c, More: true, Data: "a"},
			"\x45\x00\x00\x15\x0b\x0c\x20\x00\x0a\x09\x75\xc1\x01\x02\x03\x04\x05\x06\x07\x08a"},
		{api.Packet{Off: 0x1234, Data: "ab"}, "\x45\x00\x00\x16\x00\x00\x12\x34\x00\x00\xa8\xb5" + full(0, 8) + "ab"},
		{api.Packet{Src: 0xffffffff, Dst: 0xffffffff, Proto: 255, TTL: 255, ID: 0xffff, Stay: true, More: true, Off: 0x1fff},
			"\x45\x00\x00\x14\xff\xff\x7f\xff\xff\xff\x3a\xec" + full(0xff, 8)},
	} {
		if s, e := ip.Encode(c.p); s != c.want || e != api.OK {
			t.Errorf("Encode(%s): %x %v, want %x", brief(c.p), s, e, c.want)
		}
	}
	if api.ProtoIcmp != 1 || api.ProtoTcp != 6 || api.MaxPacket != 1500 {
		t.Error("the numbers are others")
	}
}

func TestEncodeMarks(t *testing.T) { // P18.1: each mark alone, and with the others
	for k, flags := range []string{"\x00\x05", "\x40\x05", "\x20\x05", "\x60\x05"} {
		p := piece(7, 5, k&2 != 0, "abcdefgh")
		p.Stay = k&1 != 0
		if s, e := ip.Encode(p); e != api.OK || s[6:8] != flags || s != headOf(p)+p.Data {
			t.Errorf("Encode(%s): %x %v", brief(p), s, e)
		}
	}
}

func TestEncodeWrong(t *testing.T) { // P18.1: each error, its edges, and ErrArg ahead of ErrLong
	for _, c := range []struct {
		off  uint16
		size int
		want api.Errno
	}{
		{0, 1479, api.OK}, {0, 1480, api.OK}, {8191, 1480, api.OK}, {8191, 0, api.OK},
		{8192, 0, api.ErrArg}, {8193, 8, api.ErrArg}, {16384, 8, api.ErrArg}, {40000, 8, api.ErrArg}, {65535, 8, api.ErrArg},
		{0, 1481, api.ErrLong}, {0, 1500, api.ErrLong}, {8191, 1481, api.ErrLong}, {0, 65516, api.ErrLong}, {0, 65536, api.ErrLong}, {0, 1 << 20, api.ErrLong},
		{8192, 1481, api.ErrArg}, {65535, 1 << 20, api.ErrArg},
	} {
		p := piece(7, c.off, true, full('x', c.size))
		s, e := ip.Encode(p)
		if e != c.want || e != api.OK && s != "" || e == api.OK && s != headOf(p)+p.Data {
			t.Errorf("Encode, Off %d, %d bytes: %d bytes %v, want %v", c.off, c.size, len(s), e, c.want)
		}
	}
}

func TestPacketsAgain(t *testing.T) { // P18.6: Decode of Encode is the packet, whatever stands behind; P18.1: by the chapter's words
	d := rand.New(rand.NewSource(1))
	for n := range 1481 {
		p := drawnPacket(d, n)
		s, e := ip.Encode(p)
		if e != api.OK || s != headOf(p)+p.Data || ip.Sum(s[:20]) != 0 {
			t.Fatalf("Encode(%s): %x %v", brief(p), s, e)
		}
		for _, behind := range []string{"", "x", full(0, 46), s, drawn(d, 2000)} {
			if q, e := ip.Decode(s + behind); q != p || e != api.OK {
				t.Fatalf("Decode(Encode(%s)), %d bytes behind: %s %v", brief(p), len(behind), brief(q), e)
			}
		}
	}
}

// head is the bytes of a packet with options, told freely; its sum is right.
func head(first, second byte, size int, flags int, options, data string) string {
	s := string([]byte{first, second}) + told(size) + "\x01\x02" + told(flags) + "\x09\x06\x00\x00" + "\x0a\x00\x00\x02\x0a\x00\x00\x01" + options + data
	return summed(s, 10, min(max(4*int(first&15), 20), len(s)))
}

func TestDecodeOptions(t *testing.T) { // P18.2: what stands between the first 20 bytes and Data counts for nothing, nor does the second byte
	for h := 5; h < 16; h++ {
		want := api.Packet{Src: there, Dst: here, Proto: 6, TTL: 9, ID: 0x0102}
		for _, data := range []string{"", "d", "data", full('d', 1500)} {
			for _, second := range []byte{0, 1, 0x10, 0xff} {
				want.Data = data
				s := head(byte(0x40+h), second, 4*h+len(data), 0, full('o', 4*h-20), data)
				for _, behind := range []string{"", "b", full(0, 40)} {
					if p, e := ip.Decode(s + behind); p != want || e != api.OK {
						t.Errorf("Decode, a head of %d bytes, %d bytes of data: %s %v", 4*h, len(data), brief(p), e)
					}
				}
			}
		}
	}
}

func TestDecodeFlags(t *testing.T) { // P18.2: the marks and Off, each number of the 16 bits
	for flags := range 65536 {
		want := api.Packet{Src: there, Dst: here, Proto: 6, TTL: 9, ID: 0x0102,
			Stay: flags&0x4000 != 0, More: flags&0x2000 != 0, Off: uint16(flags & 0x1fff), Data: "ab"}
		wantE := api.OK
		if flags >= 0x8000 {
			want, wantE = api.Packet{}, api.ErrForm
		}
		if p, e := ip.Decode(head(0x45, 0, 22, flags, "", "ab")); p != want || e != wantE {
			t.Fatalf("Decode, flags %x: %s %v", flags, brief(p), e)
		}
	}
}

func TestDecodeLong(t *testing.T) { // P18.2: the length is all that bounds it
	for _, n := range []int{1480, 1481, 8192, 65514, 65515} {
		data := full('d', n)
		if p, e := ip.Decode(head(0x45, 0, 20+n, 0, "", data) + full('b', 10)); p.Data != data || e != api.OK {
			t.Errorf("Decode of %d bytes of data: %s %v", n, brief(p), e)
		}
	}
}

func TestDecodeWrong(t *testing.T) { // P18.2: each error, in order
	for _, c := range []struct {
		what string
		s    string
		want api.Errno
	}{
		{"version 5", head(0x55, 0, 22, 0, "", "ab"), api.ErrForm},
		{"version 6", head(0x65, 0, 22, 0, "", "ab"), api.ErrForm},
		{"version 0", head(0x05, 0, 22, 0, "", "ab"), api.ErrForm},
		{"version 12", head(0xc5, 0, 22, 0, "", "ab"), api.ErrForm},
		{"a head of 16 bytes", head(0x44, 0, 22, 0, "", "ab"), api.ErrForm},
		{"a head of none", head(0x40, 0, 22, 0, "", "ab"), api.ErrForm},
		{"a length of 19", head(0x45, 0, 19, 0, "", "ab"), api.ErrForm},
		{"a length of 0", head(0x45, 0, 0, 0, "", "ab"), api.ErrForm},
		{"a length below its options", head(0x46, 0, 23, 0, "oooo", "ab"), api.ErrForm},
		{"the highest flag", head(0x45, 0, 22, 0x8000, "", "ab"), api.ErrForm},
		{"the highest flag, a byte short", head(0x45, 0, 23, 0x8000, "", "ab"), api.ErrForm},
		{"version 5, a byte short", head(0x55, 0, 23, 0, "", "ab"), api.ErrForm},
		{"a byte short", head(0x45, 0, 23, 0, "", "ab"), api.ErrShort},
		{"most short", head(0x45, 0, 65535, 0, "", "ab"), api.ErrShort},
		{"its options are wanting", head(0x4f, 0, 60, 0, "", "ab"), api.ErrShort},
		{"no data, of one byte", head(0x45, 0, 21, 0, "", ""), api.ErrShort},
		{"short, and another sum", head(0x45, 0, 23, 0, "", "ab")[:19] + "zab", api.ErrShort},
		{"another form, and another sum", head(0x44, 0, 22, 0, "", "ab")[:19] + "zab", api.ErrForm},
		{"another sum", head(0x45, 0, 22, 0, "", "ab")[:19] + "zab", api.ErrCheck},
		{"another sum in the options", head(0x46, 0, 26, 0, "oooo", "ab")[:23] + "zab", api.ErrCheck},
		{"nothing but 0", full(0, 20), api.ErrForm},
		{"nothing but ff", full(0xff, 2000), api.ErrForm},
	} {
		if p, e := ip.Decode(c.s); p != (api.Packet{}) || e != c.want {
			t.Errorf("Decode, %s: %s %v, want %v", c.what, brief(p), e, c.want)
		}
	}
	for n := range 20 { // ErrShort ahead of ErrForm
		for _, s := range []string{head(0x45, 0, 20, 0, "", ""), full(0, 20), full(0xff, 20)} {
			if p, e := ip.Decode(s[:n]); p != (api.Packet{}) || e != api.ErrShort {
				t.Errorf("Decode of %d bytes: %s %v", n, brief(p), e)
			}
		}
	}
}

func TestDecodeSums(t *testing.T) { // P18.2: of every sum that may stand there only those are right by which all is 0
	s := head(0x45, 0, 22, 0, "", "ab")
	for n := range 65536 {
		got := s[:10] + told(n) + s[12:]
		p, e := ip.Decode(got)
		if right := got == s; right != (e == api.OK) || !right && (e != api.ErrCheck || p != (api.Packet{})) {
			t.Fatalf("Decode, the sum %x: %s %v", n, brief(p), e)
		}
	}
	none := summed(s[:4]+"\x00\x00"+s[6:], 10, 20) // such an ID that the sum is 0: ffff is as right
	none = none[:4] + none[10:12] + none[6:10] + "\x00\x00" + none[12:]
	for _, sum := range []string{"\x00\x00", "\xff\xff"} {
		if p, e := ip.Decode(none[:10] + sum + none[12:]); e != api.OK || p.Data != "ab" {
			t.Errorf("Decode, the sum %x: %s %v", sum, brief(p), e)
		}
	}
}

// decode is P18.2 word by word.
func decode(s string) (api.Packet, api.Errno) {
	if len(s) < 20 {
		return api.Packet{}, api.ErrShort
	}
	h, size, flags := int(s[0]%16), int(s[2])*256+int(s[3]), int(s[6])*256+int(s[7])
	if s[0]/16 != 4 || h < 5 || size < 4*h || flags >= 0x8000 {
		return api.Packet{}, api.ErrForm
	}
	if len(s) < size {
		return api.Packet{}, api.ErrShort
	}
	if modelSum(s[:4*h]) != 0 {
		return api.Packet{}, api.ErrCheck
	}
	addr := func(s string) uint32 {
		return uint32(s[0])<<24 + uint32(s[1])<<16 + uint32(s[2])<<8 + uint32(s[3])
	}
	return api.Packet{
		Src: addr(s[12:]), Dst: addr(s[16:]), Proto: s[9], TTL: s[8], ID: uint16(s[4])*256 + uint16(s[5]),
		Stay: flags/0x4000 == 1, More: flags/0x2000%2 == 1, Off: uint16(flags % 0x2000), Data: s[4*h : size],
	}, api.OK
}

func TestBytesTurned(t *testing.T) { // P18.2: each byte of a head, and each other value of it
	d := rand.New(rand.NewSource(2))
	for _, size := range []int{0, 1, 40, 700} {
		s, e := ip.Encode(drawnPacket(d, size))
		if e != api.OK {
			t.Fatal(e)
		}
		for at := range 20 {
			for v := range 256 {
				b := []byte(s)
				b[at] = byte(v)
				p, e := ip.Decode(string(b))
				want, wantE := decode(string(b))
				if p != want || e != wantE {
					t.Fatalf("Decode, the byte %d is %d: %s %v, want %s %v", at, v, brief(p), e, brief(want), wantE)
				}
				if at != 0 && string(b) != s && e == api.OK {
					t.Fatalf("the byte %d is %d: it is not found out", at, v)
				}
			}
		}
	}
}

func TestAnyBytes(t *testing.T) { // R1, P18.2: whatever comes is read as the words have it, or refused
	d := rand.New(rand.NewSource(3))
	count := map[api.Errno]int{}
	for range 40000 {
		s := drawn(d, d.Intn(100))
		if d.Intn(10) > 0 && len(s) >= 20 {
			s = string([]byte{byte(0x40 + d.Intn(16)), s[1]}) + told(d.Intn(110)) + s[4:6] + string([]byte{s[6] & byte(0x7f+d.Intn(2)*0x80)}) + s[7:]
			if d.Intn(4) > 0 { // else its sum is another one, mostly
				s = summed(s, 10, min(4*int(s[0]%16), len(s)))
			}
		}
		p, e := ip.Decode(s)
		want, wantE := decode(s)
		if p != want || e != wantE {
			t.Fatalf("Decode(%x): %s %v, want %s %v", s, brief(p), e, brief(want), wantE)
		}
		count[e]++
	}
	for _, e := range []api.Errno{api.OK, api.ErrShort, api.ErrForm, api.ErrCheck} {
		if count[e] < 500 {
			t.Errorf("it says too little of %v: %d", e, count[e])
		}
	}
}

func TestDecodeIsNew(t *testing.T) { // R5: an answer does not change when the bytes do that it was read of
	want := piece(7, 3, true, "some data")
	s, e := ip.Encode(want)
	if e != api.OK {
		t.Fatal(e)
	}
	s, b := lent(s)
	p, e := ip.Decode(s)
	clear(b)
	if p != want || e != api.OK {
		t.Errorf("Decode: %s %v", brief(p), e)
	}
}
