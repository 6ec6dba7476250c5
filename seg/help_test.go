package seg_test

import (
	"fmt"
	"math/rand"
	"strings"
	"testing"
	"unsafe"

	"pharos/api"
	"pharos/seg"
)

// Both ends of most segments.
const (
	here  = uint32(0x0a000001)
	there = uint32(0x0a000002)
)

func full(b byte, n int) string { return strings.Repeat(string([]byte{b}), n) }

func drawn(d *rand.Rand, n int) string {
	b := make([]byte, n)
	d.Read(b)
	return string(b)
}

// told is a number's two bytes.
func told(n int) string { return string([]byte{byte(n >> 8), byte(n)}) }

// wide is a number's four bytes.
func wide(n uint32) string { return told(int(n>>16)) + told(int(n&0xffff)) }

// modelSum is the sum of a segment's bytes by the chapters' words, told otherwise: what goes beyond 16 bits counts as much at the low end, so numbers count modulo 65,535.
func modelSum(s string, src, dst uint32) uint16 {
	all := wide(src) + wide(dst) + "\x00\x06" + told(len(s)) + s
	n := 0
	for k := range len(all) {
		if k%2 == 0 {
			n += 256 * int(all[k])
		} else {
			n += int(all[k])
		}
	}
	return uint16(65535 - ((n-1)%65535 + 1)) // n is not 0: the 6 is there
}

// summed is bytes, 20 at least, in which their sum stands.
func summed(s string, src, dst uint32) string {
	s = s[:16] + "\x00\x00" + s[18:]
	return s[:16] + told(int(modelSum(s, src, dst))) + s[18:]
}

// bytesOf is a segment's bytes from there to here, told freely: how many fours its head has, and what are its options; its sum is right.
func bytesOf(fours int, flags uint8, options, data string) string {
	s := "\x00\x05\x01\xbb" + "\x01\x02\x03\x04" + "\x05\x06\x07\x08" + string([]byte{byte(16 * fours), flags}) + "\x09\x0a" + full(0, 4)
	return summed(s+options+data, there, here)
}

// padded is options filled up to a multiple of four, and how many fours a head has with them.
func padded(options string, by byte) (string, int) {
	for len(options)%4 != 0 {
		options += string([]byte{by})
	}
	return options, 5 + len(options)/4
}

// plain is the segment of bytesOf.
func plain(flags uint8, data string) api.Seg {
	return api.Seg{Src: 5, Dst: 443, Seq: 0x01020304, Ack: 0x05060708, Flags: flags, Wnd: 0x090a, Data: data}
}

// agreed is the one that has these options.
func agreed(mss uint16, hasScale bool, scale uint8) api.Seg {
	g := plain(api.Syn, "")
	g.Mss, g.HasScale, g.Scale = mss, hasScale, scale
	return g
}

// drawnSeg is one that Encode takes.
func drawnSeg(d *rand.Rand, size int) api.Seg {
	g := api.Seg{
		Src: uint16(d.Intn(65536)), Dst: uint16(d.Intn(65536)), Seq: d.Uint32(), Ack: d.Uint32(),
		Flags: uint8(d.Intn(256)), Wnd: uint16(d.Intn(65536)), Data: drawn(d, size),
	}
	if g.Flags&2 != 0 {
		g.Mss = uint16(d.Intn(65536) * d.Intn(2))
		g.HasScale = d.Intn(2) == 0
	}
	if g.HasScale {
		g.Scale = uint8(d.Intn(15))
	}
	return g
}

// brief is what a segment is, without all of its data.
func brief(g api.Seg) string {
	data, n := g.Data, len(g.Data)
	g.Data = ""
	return fmt.Sprintf("%+v, %d bytes: %.40q", g, n, data)
}

// encodes demands a segment's bytes.
func encodes(t *testing.T, g api.Seg, src, dst uint32, want string) {
	t.Helper()
	if s, e := seg.Encode(g, src, dst); s != want || e != api.OK {
		t.Fatalf("Encode(%s): %.100x %v, want %.100x", brief(g), s, e, want)
	}
}

// keeps demands that a segment is not written.
func keeps(t *testing.T, g api.Seg, want api.Errno) {
	t.Helper()
	if s, e := seg.Encode(g, there, here); s != "" || e != want {
		t.Fatalf("Encode(%s): %.100x %v, want %v", brief(g), s, e, want)
	}
}

// reads demands the segment that bytes from there to here are.
func reads(t *testing.T, s string, want api.Seg) {
	t.Helper()
	if g, e := seg.Decode(s, there, here); g != want || e != api.OK {
		t.Fatalf("Decode(%.100x): %s %v, want %s", s, brief(g), e, brief(want))
	}
}

// refuses demands an error, and nothing beside it.
func refuses(t *testing.T, s string, want api.Errno) {
	t.Helper()
	if g, e := seg.Decode(s, there, here); g != (api.Seg{}) || e != want {
		t.Fatalf("Decode(%.100x): %s %v, want %v", s, brief(g), e, want)
	}
}

// lent is a text on bytes of which the test has a hold: what is kept of it changes with them.
func lent(s string) (string, []byte) {
	b := []byte(s)
	return unsafe.String(unsafe.SliceData(b), len(b)), b
}
