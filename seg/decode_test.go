package seg_test

import (
	"math/rand"
	"testing"

	"pharos/api"
	"pharos/seg"
)

func TestDecode(t *testing.T) { // P19.2: the example, and what stands where
	g := api.Seg{Src: 0x0102, Dst: 0x0304, Seq: 0xf5060708, Ack: 0xf90a0b0c, Flags: api.Syn, Wnd: 0xfd0e, Mss: 1460, HasScale: true, Scale: 7, Data: "some data"}
	s := "\x01\x02\x03\x04\xf5\x06\x07\x08\xf9\x0a\x0b\x0c\x70\x02\xfd\x0e\x00\x00\x00\x00\x02\x04\x05\xb4\x01\x03\x03\x07some data"
	reads(t, summed(s, there, here), g)
	reads(t, bytesOf(5, api.Ack, "", ""), plain(api.Ack, ""))
	reads(t, bytesOf(5, api.Ack, "", "\x02\x04\x05\xb4"), plain(api.Ack, "\x02\x04\x05\xb4")) // of a head without options all is Data
	reads(t, bytesOf(5, api.Syn, "", "\x02\x04\x05\xb4"), plain(api.Syn, "\x02\x04\x05\xb4"))
}

func TestDecodeFlags(t *testing.T) { // P19.2: all are kept, the highest two too
	for flags := range 256 {
		reads(t, bytesOf(5, uint8(flags), "", "d"), plain(uint8(flags), "d"))
	}
}

func TestDecodeHeads(t *testing.T) { // P19.2: each head that may be; the low half of its byte, and the two bytes behind the sum, count for nothing
	for fours := 5; fours < 16; fours++ {
		for _, data := range []string{"", "d", "data", full('d', 1460), full('d', 3000), full('d', 70000)} {
			s := bytesOf(fours, api.Ack, full(1, 4*fours-20), data)
			reads(t, s, plain(api.Ack, data))
			for low := range 16 {
				reads(t, summed(s[:12]+string([]byte{byte(16*fours + low)})+s[13:18]+"\xab\xcd"+s[20:], there, here), plain(api.Ack, data))
			}
		}
	}
}

func TestDecodeOptions(t *testing.T) { // P19.2: what options tell, in any order, with others between them
	for _, c := range []struct {
		options string
		want    api.Seg
	}{
		{"", agreed(0, false, 0)},
		{"\x00", agreed(0, false, 0)},
		{full(0, 40), agreed(0, false, 0)},
		{full(1, 40), agreed(0, false, 0)},
		{"\x02\x04\x05\xb4", agreed(1460, false, 0)},
		{"\x02\x04\x00\x00", agreed(0, false, 0)},
		{"\x02\x04\x00\x01", agreed(1, false, 0)},
		{"\x02\x04\xff\xff", agreed(65535, false, 0)},
		{"\x03\x03\x00", agreed(0, true, 0)},
		{"\x03\x03\x01", agreed(0, true, 1)},
		{"\x03\x03\x0d", agreed(0, true, 13)},
		{"\x03\x03\x0e", agreed(0, true, 14)},
		{"\x03\x03\x0f", agreed(0, true, 14)},
		{"\x03\x03\xff", agreed(0, true, 14)},
		{"\x03\x03\x07\x02\x04\x05\xb4", agreed(1460, true, 7)},
		{"\x02\x04\x05\xb4\x03\x03\x07", agreed(1460, true, 7)},
		{"\x01\x01\x02\x04\x05\xb4\x01\x01\x01\x03\x03\x07\x01", agreed(1460, true, 7)},
		{"\x02\x04\x05\xb4\x02\x04\x12\x34", agreed(0x1234, false, 0)}, // the last of each
		{"\x02\x04\x05\xb4\x02\x04\x00\x00", agreed(0, false, 0)},
		{"\x03\x03\x07\x03\x03\x02", agreed(0, true, 2)},
		{"\x03\x03\x02\x03\x03\xff", agreed(0, true, 14)},
		{"\x03\x03\xff\x03\x03\x00", agreed(0, true, 0)},
		{"\x02\x04\x05\xb4\x03\x03\x07\x02\x04\x12\x34\x03\x03\x09", agreed(0x1234, true, 9)},
		{"\x02\x04\x05\xb4\x00\x02\x04\x12\x34", agreed(1460, false, 0)}, // what is behind the end
		{"\x00\x02\x04\x05\xb4\x03\x03\x07", agreed(0, false, 0)},
		{"\x03\x03\x07\x00\x03\x03\x09", agreed(0, true, 7)},
		{"\x02\x04\x05\xb4\x00\x02\x07\x00\x00", agreed(1460, false, 0)},
		{"\x00\x05\x00", agreed(0, false, 0)},
		{"\x00\x05\x01", agreed(0, false, 0)},
		{"\x00\x05\xff", agreed(0, false, 0)},
		{"\x04\x02\x02\x04\x05\xb4", agreed(1460, false, 0)}, // other ones, of any length
		{"\x02\x04\x05\xb4\x04\x02\x08\x0atimestmp\x01\x03\x03\x07", agreed(1460, true, 7)},
		{"\x05\x05abc\x02\x04\x05\xb4", agreed(1460, false, 0)},
		{"\x05\x08\x02\x04\x05\xb4\x03\x03", agreed(0, false, 0)},
		{"\xff\x04\x05\xb4", agreed(0, false, 0)},
		{"\x1e\x24" + full(2, 34) + "\x02\x04\x05\xb4", agreed(1460, false, 0)},
		{"\x1e\x28" + full(3, 38), agreed(0, false, 0)},
	} {
		for _, by := range []byte{0, 1} {
			options, fours := padded(c.options, by)
			reads(t, bytesOf(fours, api.Syn, options, ""), c.want)
			want := c.want
			want.Data, want.Flags = "\x02\x04\x01\x01\x03\x03\x01", 0xff // what is behind the head is none of them
			reads(t, bytesOf(fours, 0xff, options, want.Data), want)
			want = plain(api.Ack|api.Fin, "x") // without Syn both count for nothing
			reads(t, bytesOf(fours, api.Ack|api.Fin, options, "x"), want)
		}
	}
}

func TestDecodeKinds(t *testing.T) { // P19.2: each kind of option, with each length that it may tell
	for kind := range 256 {
		for size := range 256 {
			options := string([]byte{byte(kind), byte(size)}) + full(1, 38)
			want, right := agreed(0, false, 0), size >= 2 && size <= 40
			switch kind {
			case 0, 1: // such a one has no length: the byte behind it is behind the end, or the kind of the next one, whose length is 1
				right = kind == 0 || size < 2
			case 2:
				want, right = agreed(0x0101, false, 0), size == 4
			case 3:
				want, right = agreed(0, true, 1), size == 3
			}
			for _, flags := range []uint8{api.Syn, api.Ack} { // what is no option is none without Syn either
				s := bytesOf(15, flags, options, "")
				switch {
				case !right:
					refuses(t, s, api.ErrForm)
				case flags == api.Syn:
					reads(t, s, want)
				default:
					reads(t, s, plain(api.Ack, ""))
				}
			}
		}
	}
}

func TestDecodeWrongOptions(t *testing.T) { // P19.2: ErrForm, wherever in the head it is
	for _, c := range []string{
		"\x01\x01\x01\x02", // a length that is wanting, at the head's end
		"\x01\x01\x01\x03",
		"\x01\x01\x01\xff",
		"\x02\x04\x05\xb4\x01\x01\x01\x05",
		"\x01\x01\x02\x04", // what is wanting would stand in the data
		"\x01\x02\x04\x05",
		"\x01\x01\x03\x03",
		"\x01\x01\x05\x03",
		"\x05\x05\x01\x01",
		"\x05\xff\x01\x01",
		"\x05\x00\x01\x01",
		"\x05\x01\x01\x01",
		"\x02\x00\x01\x01",
		"\x02\x01\x01\x01",
		"\x02\x02\x01\x01",
		"\x02\x03\x01\x01",
		"\x02\x05\x01\x01\x01\x01\x01\x01",
		"\x02\x06\x01\x01\x01\x01\x01\x01",
		"\x03\x00\x01\x01",
		"\x03\x01\x01\x01",
		"\x03\x02\x01\x01",
		"\x03\x04\x07\x07",
		"\x02\x04\x05\xb4\x03\x04\x07\x07", // behind one that is right
		"\x03\x03\x07\x02\x03\x01\x01\x01",
		"\x02\x04\x05\xb4\x03\x03\x07\x03",
		"\x02\x03\x05\x00", // ahead of the end
	} {
		for _, flags := range []uint8{api.Syn, api.Syn | api.Ack, api.Ack, 0} {
			for _, data := range []string{"", "data", full(1, 60), full(4, 60)} {
				refuses(t, bytesOf(5+len(c)/4, flags, c, data), api.ErrForm)
			}
		}
	}
}

func TestDecodeWrong(t *testing.T) { // P19.2: each error, in order
	wrong := "\x02\x03\x01\x01" // options
	turned := func(s string) string { return s[:9] + string([]byte{s[9] ^ 0x10}) + s[10:] }
	for _, c := range []struct {
		what string
		s    string
		want api.Errno
	}{
		{"a head of 16 bytes", bytesOf(4, api.Ack, "", "data"), api.ErrForm},
		{"a head of none", bytesOf(0, api.Ack, "", "data"), api.ErrForm},
		{"a head of 24 of 20", bytesOf(6, api.Ack, "", ""), api.ErrForm},
		{"a head of 24 of 23", bytesOf(6, api.Ack, "", "abc"), api.ErrForm},
		{"a head of 60 of 59", bytesOf(15, api.Ack, full(1, 39), ""), api.ErrForm},
		{"a head of 60 of 20", bytesOf(15, api.Ack, "", ""), api.ErrForm},
		{"a head of 16 bytes, and another sum", turned(bytesOf(4, api.Ack, "", "data")), api.ErrForm},
		{"a head of 24 of 23, and another sum", turned(bytesOf(6, api.Ack, "", "abc")), api.ErrForm},
		{"another sum", turned(bytesOf(5, api.Ack, "", "data")), api.ErrCheck},
		{"another sum, and wrong options", turned(bytesOf(6, api.Syn, wrong, "data")), api.ErrCheck},
		{"wrong options", bytesOf(6, api.Syn, wrong, "data"), api.ErrForm},
		{"a byte more", bytesOf(5, api.Ack, "", "data") + "\x00", api.ErrCheck}, // how many there are is summed too
		{"a byte less", bytesOf(5, api.Ack, "", "data\x00")[:24], api.ErrCheck},
		{"nothing but 0", full(0, 20), api.ErrForm},
		{"nothing but ff", full(0xff, 60), api.ErrCheck},
		{"nothing but ff, of fewer", full(0xff, 59), api.ErrForm},
	} {
		t.Run(c.what, func(t *testing.T) { refuses(t, c.s, c.want) })
	}
	for n := range 20 { // ErrShort ahead of ErrForm, and of ErrCheck
		for _, s := range []string{bytesOf(5, api.Ack, "", ""), full(0, 20), full(0xff, 20), full(0x50, 20)} {
			refuses(t, s[:n], api.ErrShort)
		}
	}
}

func TestDecodeOtherEnds(t *testing.T) { // P19.2: the sum is of both addresses, too
	s := bytesOf(5, api.Ack, "", "data")
	for bit := range 32 {
		for _, c := range [][2]uint32{{there ^ 1<<bit, here}, {there, here ^ 1<<bit}} {
			if g, e := seg.Decode(s, c[0], c[1]); g != (api.Seg{}) || e != api.ErrCheck {
				t.Errorf("Decode between %x and %x: %s %v", c[0], c[1], brief(g), e)
			}
		}
	}
	if g, e := seg.Decode(s, here, there); g != plain(api.Ack, "data") || e != api.OK { // a sum has no order
		t.Errorf("Decode between both: %s %v", brief(g), e)
	}
}

func TestDecodeSums(t *testing.T) { // P19.2: of every sum that may stand there only those are right by which all is 0
	s := bytesOf(5, api.Ack, "", "data")
	for n := range 65536 {
		got := s[:16] + told(n) + s[18:]
		g, e := seg.Decode(got, there, here)
		if right := got == s; right != (e == api.OK) || !right && (e != api.ErrCheck || g != (api.Seg{})) {
			t.Fatalf("Decode, the sum %x: %s %v", n, brief(g), e)
		}
	}
	none := bytesOf(5, api.Ack, "", "data")
	none = summed(none[:2]+none[16:18]+none[4:], there, here) // such a Dst that the sum is one of few
	none = summed(none[:2]+told(int(modelSum(none[:2]+"\x00\x00"+none[4:16]+"\x00\x00"+none[18:], there, here)))+none[4:], there, here)
	if none[16:18] != "\x00\x00" {
		t.Fatalf("the sum is %x", none[16:18])
	}
	for _, sum := range []string{"\x00\x00", "\xff\xff"} { // ffff counts as much as 0
		if _, e := seg.Decode(none[:16]+sum+none[18:], there, here); e != api.OK {
			t.Errorf("Decode, the sum %x: %v", sum, e)
		}
	}
}

func TestDecodeIsNew(t *testing.T) { // R5: an answer does not change when the bytes do that it was read of
	want := agreed(1460, true, 7)
	want.Data = "some data"
	s, e := seg.Encode(want, there, here)
	if e != api.OK {
		t.Fatal(e)
	}
	s, b := lent(s)
	g, e := seg.Decode(s, there, here)
	clear(b)
	if g != want || e != api.OK {
		t.Errorf("Decode: %s %v", brief(g), e)
	}
}

func TestEncodeIsNew(t *testing.T) { // R5: nor do the bytes, when the segment's data do
	data, b := lent("some data")
	g := plain(api.Ack, data)
	s, e := seg.Encode(g, there, here)
	clear(b)
	if s != bytesOf(5, api.Ack, "", "some data") || e != api.OK {
		t.Errorf("Encode: %x %v", s, e)
	}
}

func TestBytesTurned(t *testing.T) { // P19.3: each byte, and each other value of it, is found out
	d := rand.New(rand.NewSource(3))
	for _, size := range []int{0, 1, 2, 37} {
		g := drawnSeg(d, size)
		s, e := seg.Encode(g, there, here)
		if e != api.OK {
			t.Fatal(e)
		}
		for at := range len(s) {
			for v := range 256 {
				b := []byte(s)
				b[at] = byte(v)
				got, e := seg.Decode(string(b), there, here)
				if string(b) == s {
					if got != g || e != api.OK {
						t.Fatalf("Decode(%x): %s %v", b, brief(got), e)
					}
					continue
				}
				fours := v / 16
				want := api.ErrCheck
				if at == 12 && (fours < 5 || 4*fours > len(s)) {
					want = api.ErrForm
				}
				if got != (api.Seg{}) || e != want {
					t.Fatalf("Decode, the byte %d of %x is %x: %s %v, want %v", at, s, v, brief(got), e, want)
				}
			}
		}
	}
}

func TestSegsAgain(t *testing.T) { // P19.3: Decode of Encode is the segment, of each length, and all its bytes are as the words have it
	d := rand.New(rand.NewSource(4))
	for n := range 1461 {
		for range 4 {
			g := drawnSeg(d, n)
			src, dst := d.Uint32(), d.Uint32()
			encodes(t, g, src, dst, encode(g, src, dst))
			s, _ := seg.Encode(g, src, dst)
			if x, e := seg.Decode(s, src, dst); x != g || e != api.OK || seg.Sum(s, src, dst) != 0 {
				t.Fatalf("Decode(Encode(%s)): %s %v", brief(g), brief(x), e)
			}
		}
	}
}
