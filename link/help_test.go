package link_test

import (
	"slices"
	"strings"
	"testing"

	"pharos/api"
	"pharos/link"
)

// The tables of most tests: this card, its address, and others.
const (
	own     = "\x02\x00\x00\x00\x00\x01"
	second  = "\x02\x00\x00\x00\x00\x02"
	third   = "\x02\x00\x00\x00\x00\x03"
	nobody  = "\x00\x00\x00\x00\x00\x00"
	all     = "\xff\xff\xff\xff\xff\xff"
	ownAddr = uint32(0x0a000001)
	net     = uint32(0x0a000000)
)

// farthest is the last time that may be.
const farthest = uint64(1)<<62 - 1

// noTimes are times that may not be.
var noTimes = []uint64{1 << 62, 1<<62 + 1, 1 << 63, 1<<64 - 1}

// noMacs are no card's addresses that are one alone's.
var noMacs = []string{
	"", "\x02", own[:5], own + "\x00", own + own, nobody, all, "\x01\x00\x00\x00\x00\x00", "\x03\x00\x00\x00\x00\x01",
	"\x01\x00\x5e\x00\x00\x01", "\x33\x33\x00\x00\x00\x01", "\x00\x00\x00\x00\x00", "\x00\x00\x00\x00\x00\x00\x02",
}

// noAddrs are addresses that are not one alone's.
var noAddrs = []uint32{0, 1, 0x00ffffff, 0x7f000000, 0x7f000001, 0x7fffffff, 0xe0000000, 0xe0000001, 0xefffffff, 0xf0000000, 0xffffffff}

// table is one, and what must be of it.
type table struct {
	*link.Table
	t *testing.T
}

func made(t *testing.T, most int, life uint64) table {
	t.Helper()
	x, e := link.New(own, ownAddr, most, life)
	if x == nil || e != api.OK {
		t.Fatalf("New(%d, %d): %v", most, life, e)
	}
	return table{x, t}
}

// learns demands what Learn answers.
func (x table) learns(addr uint32, mac string, now uint64, want api.Errno) {
	x.t.Helper()
	if e := x.Learn(addr, mac, now); e != want {
		x.t.Fatalf("Learn(%x, %x, %d): %v, want %v", addr, mac, now, e, want)
	}
}

// has demands that this one is near at that time.
func (x table) has(addr uint32, now uint64, mac string) {
	x.t.Helper()
	if s, e := x.Lookup(addr, now); s != mac || e != api.OK {
		x.t.Fatalf("Lookup(%x, %d): %x %v, want %x", addr, now, s, e, mac)
	}
}

// lacks demands what Lookup answers with an error.
func (x table) lacks(addr uint32, now uint64, want api.Errno) {
	x.t.Helper()
	if s, e := x.Lookup(addr, now); s != "" || e != want {
		x.t.Fatalf("Lookup(%x, %d): %x %v, want %v", addr, now, s, e, want)
	}
}

// near demands who is near.
func (x table) near(now uint64, want ...api.Near) {
	x.t.Helper()
	if l := x.Near(now); !slices.Equal(l, want) {
		x.t.Fatalf("Near(%d): %v, want %v", now, l, want)
	}
}

// takes demands that an ARP is taken, and whether, and by what, it is answered.
func (x table) takes(a api.Arp, now uint64, want ...api.Arp) {
	x.t.Helper()
	b, is, e := x.Take(a, now)
	if e != api.OK || is != (len(want) > 0) {
		x.t.Fatalf("Take(%v, %d): %v %v %v, want %v", a, now, b, is, e, want)
	}
	if !is {
		want = []api.Arp{{}}
	}
	if b != want[0] {
		x.t.Fatalf("Take(%v, %d): %v, want %v", a, now, b, want[0])
	}
}

// refuses demands that an ARP is an argument that may not be.
func (x table) refuses(a api.Arp, now uint64) {
	x.t.Helper()
	if b, is, e := x.Take(a, now); b != (api.Arp{}) || is || e != api.ErrArg {
		x.t.Fatalf("Take(%v, %d): %v %v %v", a, now, b, is, e)
	}
}

func who(addr uint32, mac string, until uint64) api.Near {
	return api.Near{Addr: addr, Mac: mac, Until: until}
}

// ask is a question of one for an address, as cards send it.
func ask(mac string, addr, to uint32) api.Arp {
	return api.Arp{Op: api.ArpAsk, From: mac, FromAddr: addr, To: nobody, ToAddr: to}
}

// answer is what the table's card answers.
func answer(mac string, addr uint32) api.Arp {
	return api.Arp{Op: api.ArpAnswer, From: own, FromAddr: ownAddr, To: mac, ToAddr: addr}
}

func full(b byte, n int) string { return strings.Repeat(string([]byte{b}), n) }
