package link_test

import (
	"math/rand"
	"testing"

	"pharos/api"
	"pharos/link"
)

func frame(kind uint16, data string) api.Frame {
	return api.Frame{Dst: "dddddd", Src: "ssssss", Type: kind, Data: data}
}

func TestEncode(t *testing.T) { // P17.1: byte by byte
	for _, c := range []struct {
		f    api.Frame
		want string
	}{
		{frame(api.TypeIP, "hi"), "ddddddssssss\x08\x00hi" + full(0, 44)},
		{frame(api.TypeArp, ""), "ddddddssssss\x08\x06" + full(0, 46)},
		{frame(1536, full('x', 45)), "ddddddssssss\x06\x00" + full('x', 45) + "\x00"},
		{frame(0xffff, full('x', 46)), "ddddddssssss\xff\xff" + full('x', 46)},
		{frame(0x0102+0x1000, full('x', 47)), "ddddddssssss\x11\x02" + full('x', 47)},
		{frame(0x86dd, full('x', 1499)), "ddddddssssss\x86\xdd" + full('x', 1499)},
		{frame(0x86dd, full('x', 1500)), "ddddddssssss\x86\xdd" + full('x', 1500)},
		{api.Frame{Dst: all, Src: nobody, Type: 1537, Data: "\xff"}, all + nobody + "\x06\x01\xff" + full(0, 45)},
	} {
		if s, e := link.Encode(c.f); s != c.want || e != api.OK {
			t.Errorf("Encode(%v): %q %v", c.f, s, e)
		}
	}
	if api.MinData != 46 || api.MaxData != 1500 {
		t.Error("the limits are others")
	}
}

func TestEncodeWrong(t *testing.T) { // P17.1: each error, and ErrArg ahead of ErrLong
	long := full('x', 1501)
	for _, c := range []struct {
		f    api.Frame
		want api.Errno
	}{
		{api.Frame{}, api.ErrArg},
		{api.Frame{Dst: "ddddd", Src: "ssssss", Type: 1536}, api.ErrArg},
		{api.Frame{Dst: "ddddddd", Src: "ssssss", Type: 1536}, api.ErrArg},
		{api.Frame{Dst: "", Src: "ssssss", Type: 1536}, api.ErrArg},
		{api.Frame{Dst: "dddddd", Src: "sssss", Type: 1536}, api.ErrArg},
		{api.Frame{Dst: "dddddd", Src: "sssssss", Type: 1536}, api.ErrArg},
		{api.Frame{Dst: "dddddd", Src: "", Type: 1536}, api.ErrArg},
		{api.Frame{Dst: "ddddd", Src: "sssssss", Type: 1536}, api.ErrArg},
		{frame(1535, ""), api.ErrArg}, {frame(0, ""), api.ErrArg}, {frame(1500, ""), api.ErrArg},
		{frame(1536, long), api.ErrLong}, {frame(api.TypeIP, long+long), api.ErrLong},
		{frame(1535, long), api.ErrArg},
		{api.Frame{Dst: "ddddd", Src: "ssssss", Type: 1536, Data: long}, api.ErrArg},
		{api.Frame{Dst: "dddddd", Src: "sssssss", Type: 1536, Data: long}, api.ErrArg},
	} {
		if s, e := link.Encode(c.f); s != "" || e != c.want {
			t.Errorf("Encode(%d, %d, %d, %d): %q %v, want %v", len(c.f.Dst), len(c.f.Src), c.f.Type, len(c.f.Data), s, e, c.want)
		}
	}
}

func TestDecode(t *testing.T) { // P17.1: all behind the type, however much or little
	for _, n := range []int{0, 1, 2, 45, 46, 47, 1499, 1500} {
		data := full('x', n)
		if f, e := link.Decode("ddddddssssss\x06\x00" + data); f != frame(1536, data) || e != api.OK {
			t.Errorf("Decode of %d bytes of data: %v %v", n, f, e)
		}
	}
	for kind, s := range map[uint16]string{1536: "\x06\x00", 1537: "\x06\x01", 0x0800: "\x08\x00", 0x0806: "\x08\x06", 0xffff: "\xff\xff", 0xff00: "\xff\x00"} {
		if f, e := link.Decode("ddddddssssss" + s + "data"); f != frame(kind, "data") || e != api.OK {
			t.Errorf("Decode of the type %d: %v %v", kind, f, e)
		}
	}
	if f, e := link.Decode("abcdefghijkl\x08\x00m"); f != (api.Frame{Dst: "abcdef", Src: "ghijkl", Type: 0x0800, Data: "m"}) || e != api.OK {
		t.Errorf("Decode: %v %v", f, e)
	}
}

func TestDecodeWrong(t *testing.T) { // P17.1: each error, in order
	whole := "ddddddssssss\x08\x00"
	for n := range 14 {
		if f, e := link.Decode(whole[:n]); f != (api.Frame{}) || e != api.ErrShort {
			t.Errorf("Decode of %d bytes: %v %v", n, f, e)
		}
	}
	for _, c := range []struct {
		s    string
		want api.Errno
	}{
		{"ddddddssssss\x00\x64", api.ErrType}, {"ddddddssssss\x05\xff", api.ErrType}, {"ddddddssssss\x00\x00", api.ErrType},
		{"ddddddssssss\x00\xffdata", api.ErrType}, {"ddddddssssss\x05\xff" + full('x', 1500), api.ErrType},
		{"ddddddssssss\x05\xff" + full('x', 1501), api.ErrType},
		{whole + full('x', 1501), api.ErrLong}, {whole + full('x', 70000), api.ErrLong}, {"ddddddssssss\x06\x00" + full(0, 1501), api.ErrLong},
	} {
		if f, e := link.Decode(c.s); f != (api.Frame{}) || e != c.want {
			t.Errorf("Decode(%.20q, %d bytes): %v %v, want %v", c.s, len(c.s), f, e, c.want)
		}
	}
}

func drawn(d *rand.Rand, n int) string {
	b := make([]byte, n)
	d.Read(b)
	return string(b)
}

func TestFramesAgain(t *testing.T) { // P17.6: frames are read as they were written, but for what they were filled up with
	d := rand.New(rand.NewSource(17))
	for n := range 1501 {
		f := api.Frame{Dst: drawn(d, 6), Src: drawn(d, 6), Type: uint16(1536 + d.Intn(65536-1536)), Data: drawn(d, n)}
		s, e := link.Encode(f)
		if e != api.OK || len(s) != 14+max(46, n) {
			t.Fatalf("Encode of %d bytes of data: %d bytes, %v", n, len(s), e)
		}
		want := f
		want.Data += full(0, max(46-n, 0))
		if g, e := link.Decode(s); g != want || e != api.OK {
			t.Fatalf("Decode(Encode(%v)): %v %v", f, g, e)
		}
		again, e := link.Encode(want)
		if again != s || e != api.OK {
			t.Fatalf("Encode(Decode(%q)): %q %v", s, again, e)
		}
	}
}

func TestAllTypes(t *testing.T) { // P17.1, P17.6: each number that a type may be, and each that it may not
	for k := range 65536 {
		kind := uint16(k)
		s, e := link.Encode(frame(kind, ""))
		f, e2 := link.Decode("ddddddssssss" + string([]byte{byte(k >> 8), byte(k)}))
		if kind < 1536 && (s != "" || e != api.ErrArg || e2 != api.ErrType || f != (api.Frame{})) {
			t.Fatalf("the type %d: %q %v, %v %v", k, s, e, f, e2)
		}
		if kind >= 1536 && (e != api.OK || s[:14] != "ddddddssssss"+string([]byte{byte(k >> 8), byte(k)}) || e2 != api.OK || f != frame(kind, "")) {
			t.Fatalf("the type %d: %q %v, %v %v", k, s, e, f, e2)
		}
	}
}
