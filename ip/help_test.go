package ip_test

import (
	"fmt"
	"math/rand"
	"strings"
	"testing"
	"unsafe"

	"pharos/api"
	"pharos/ip"
)

// Both ends of most packets.
const (
	here  = uint32(0x0a000001)
	there = uint32(0x0a000002)
)

// farthest is the last time that may be.
const farthest = uint64(1)<<62 - 1

// noTimes are times that may not be.
var noTimes = []uint64{1 << 62, 1<<62 + 1, 1 << 63, 1<<64 - 1}

func full(b byte, n int) string { return strings.Repeat(string([]byte{b}), n) }

func drawn(d *rand.Rand, n int) string {
	b := make([]byte, n)
	d.Read(b)
	return string(b)
}

// modelSum is the sum of bytes by the chapter's words, told otherwise: what goes beyond 16 bits counts as much at the low end, so numbers count modulo 65,535; only a sum of nothing but zeros is 0.
func modelSum(s string) uint16 {
	if len(s)%2 == 1 {
		s += "\x00"
	}
	n := 0
	for k := 0; k < len(s); k += 2 {
		n += int(s[k])*256 + int(s[k+1])
	}
	if n > 0 {
		n = (n-1)%65535 + 1
	}
	return uint16(65535 - n)
}

// told is a number's two bytes.
func told(n int) string { return string([]byte{byte(n >> 8), byte(n)}) }

// summed is bytes in which the sum stands, at a place, of the first so many.
func summed(s string, at, size int) string {
	s = s[:at] + "\x00\x00" + s[at+2:]
	return s[:at] + told(int(modelSum(s[:size]))) + s[at+2:]
}

// headOf is a packet's first 20 bytes by the chapter's words.
func headOf(p api.Packet) string {
	flags := int(p.Off)
	if p.Stay {
		flags += 0x4000
	}
	if p.More {
		flags += 0x2000
	}
	addr := func(a uint32) string { return told(int(a>>16)) + told(int(a&0xffff)) }
	s := "\x45\x00" + told(20+len(p.Data)) + told(int(p.ID)) + told(flags) +
		string([]byte{p.TTL, p.Proto}) + "\x00\x00" + addr(p.Src) + addr(p.Dst)
	return summed(s, 10, 20)
}

// drawnPacket is one that Encode takes.
func drawnPacket(d *rand.Rand, size int) api.Packet {
	return api.Packet{
		Src: d.Uint32(), Dst: d.Uint32(), Proto: uint8(d.Intn(256)), TTL: uint8(d.Intn(256)), ID: uint16(d.Intn(65536)),
		Stay: d.Intn(2) == 0, More: d.Intn(2) == 0, Off: uint16(d.Intn(8192)), Data: drawn(d, size),
	}
}

// piece is one of a packet from there to here.
func piece(id, off uint16, more bool, data string) api.Packet {
	return api.Packet{Src: there, Dst: here, Proto: api.ProtoTcp, TTL: 9, ID: id, More: more, Off: off, Data: data}
}

// part is a piece of the packet 7, of so many bytes, told by their places.
func part(from, to int, more bool) api.Packet {
	return piece(7, uint16(from/8), more, places(from, to))
}

// places is bytes that tell where each stands.
func places(from, to int) string {
	b := make([]byte, 0, to-from)
	for k := from; k < to; k++ {
		b = append(b, byte(k^k>>5))
	}
	return string(b)
}

// made is what the pieces of a packet make.
func made(p api.Packet, ttl uint8, data string) api.Packet {
	return api.Packet{Src: p.Src, Dst: p.Dst, Proto: p.Proto, ID: p.ID, TTL: ttl, Data: data}
}

// pieces is what is put together, and what must be of it.
type pieces struct {
	*ip.Pieces
	t *testing.T
}

func fresh(t *testing.T, most int, life uint64) pieces {
	t.Helper()
	x, e := ip.New(most, life)
	if x == nil || e != api.OK {
		t.Fatalf("New(%d, %d): %v %v", most, life, x, e)
	}
	return pieces{x, t}
}

// brief is what a packet is, without all of its data.
func brief(p api.Packet) string {
	data, n := p.Data, len(p.Data)
	p.Data = ""
	return fmt.Sprintf("%+v, %d bytes: %.40q", p, n, data)
}

// keeps demands that a piece is taken, and makes nothing yet.
func (x pieces) keeps(p api.Packet, now uint64) {
	x.t.Helper()
	x.refuses(p, now, api.OK)
}

// refuses demands an error, and nothing beside it.
func (x pieces) refuses(p api.Packet, now uint64, want api.Errno) {
	x.t.Helper()
	if q, is, e := x.Take(p, now); q != (api.Packet{}) || is || e != want {
		x.t.Fatalf("Take(%s, %d): %s %v %v, want %v", brief(p), now, brief(q), is, e, want)
	}
}

// makes demands the packet that a piece makes.
func (x pieces) makes(p api.Packet, now uint64, want api.Packet) {
	x.t.Helper()
	if q, is, e := x.Take(p, now); q != want || !is || e != api.OK {
		x.t.Fatalf("Take(%s, %d): %s %v %v, want %s", brief(p), now, brief(q), is, e, brief(want))
	}
}

// waits demands how many sets there are.
func (x pieces) waits(want int) {
	x.t.Helper()
	if n := x.Waits(); n != want {
		x.t.Fatalf("Waits: %d, want %d", n, want)
	}
}

// lent is a text on bytes of which the test has a hold: what is kept of it changes with them.
func lent(s string) (string, []byte) {
	b := []byte(s)
	return unsafe.String(unsafe.SliceData(b), len(b)), b
}
