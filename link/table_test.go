package link_test

import (
	"math"
	"slices"
	"testing"

	"pharos/api"
	"pharos/link"
)

func TestExample(t *testing.T) { // P17.3 to P17.5: the chapter's own
	x := made(t, 1, 10)
	x.takes(ask(second, net+2, ownAddr), 5, answer(second, net+2))
	x.learns(net+3, third, 6, api.ErrFull)
	x.near(6, who(net+2, second, 15))
	x.has(net+2, 14, second)
	x.takes(ask(third, net+3, net+9), 14)
	x.near(14, who(net+2, second, 15))
	x.lacks(net+2, 15, api.ErrNone)
}

func TestNew(t *testing.T) { // P17.3: the bounds
	for _, most := range []int{1, 2, 63, 64} {
		for _, life := range []uint64{1, 2, 1<<32 - 1, 1 << 32} {
			x := made(t, most, life)
			x.near(0)
			x.lacks(ownAddr, 0, api.ErrNone)
			x.lacks(net+2, 0, api.ErrNone)
		}
	}
	for _, addr := range []uint32{1 << 24, 0x7effffff, 0x80000000, 0xdfffffff} {
		for _, mac := range []string{own, "\x00\x00\x00\x00\x00\x01", "\xfe\xff\xff\xff\xff\xff"} {
			if x, e := link.New(mac, addr, 1, 1); x == nil || e != api.OK || x.Ask(7).From != mac || x.Ask(7).FromAddr != addr {
				t.Errorf("New(%x, %x): %v", mac, addr, e)
			}
		}
	}
	if api.MaxNear != 64 || api.MaxLife != 1<<32 {
		t.Error("the limits are others")
	}
}

func TestNewWrong(t *testing.T) { // P17.3
	refused := func(mac string, addr uint32, most int, life uint64) {
		t.Helper()
		if x, e := link.New(mac, addr, most, life); x != nil || e != api.ErrArg {
			t.Errorf("New(%x, %x, %d, %d): %v %v", mac, addr, most, life, x, e)
		}
	}
	for _, mac := range noMacs {
		refused(mac, ownAddr, 1, 1)
	}
	for _, addr := range noAddrs {
		refused(own, addr, 1, 1)
	}
	for _, most := range []int{0, -1, 65, math.MinInt, math.MaxInt, 1<<32 + 1} {
		refused(own, ownAddr, most, 1)
	}
	for _, life := range []uint64{0, 1<<32 + 1, 1 << 63, math.MaxUint64} {
		refused(own, ownAddr, 1, life)
	}
	refused("", 0, 0, 0)
}

func TestNone(t *testing.T) { // R3: nil, and what New did not make
	var none *link.Table
	for _, x := range []*link.Table{none, new(link.Table), {}} {
		for _, now := range []uint64{0, 5, farthest, 1 << 62, math.MaxUint64} {
			if a, is, e := x.Take(ask(second, net+2, ownAddr), now); a != (api.Arp{}) || is || e != api.ErrNil {
				t.Errorf("Take: %v %v %v", a, is, e)
			}
			if a, is, e := x.Take(ask(second, net+2, 0), now); a != (api.Arp{}) || is || e != api.ErrNil {
				t.Errorf("Take: %v %v %v", a, is, e)
			}
			if a, is, e := x.Take(api.Arp{}, now); a != (api.Arp{}) || is || e != api.ErrNil { // ahead of ErrArg
				t.Errorf("Take: %v %v %v", a, is, e)
			}
			if e := x.Learn(net+2, second, now); e != api.ErrNil {
				t.Errorf("Learn: %v", e)
			}
			if e := x.Learn(0, "", now); e != api.ErrNil {
				t.Errorf("Learn: %v", e)
			}
			if s, e := x.Lookup(net+2, now); s != "" || e != api.ErrNil {
				t.Errorf("Lookup: %q %v", s, e)
			}
			if l := x.Near(now); len(l) != 0 {
				t.Errorf("Near: %v", l)
			}
		}
		if a := x.Ask(net + 2); a != (api.Arp{}) {
			t.Errorf("Ask: %v", a)
		}
	}
}

func TestLearn(t *testing.T) { // P17.4: anew, and once more: mac and time are the last ones'
	x := made(t, 2, 10)
	x.learns(net+3, third, 5, api.OK)
	x.near(5, who(net+3, third, 15))
	x.learns(net+2, second, 6, api.OK)
	x.near(6, who(net+2, second, 16), who(net+3, third, 15))
	x.learns(net+3, second, 8, api.OK) // another card, which may be the same one as somebody else's
	x.near(8, who(net+2, second, 16), who(net+3, second, 18))
	x.learns(net+3, third, 2, api.OK) // a time that is ahead of the others counts as it is
	x.near(2, who(net+2, second, 16), who(net+3, third, 12))
	x.learns(net+4, third, 11, api.ErrFull)
	x.near(11, who(net+2, second, 16), who(net+3, third, 12))
	x.learns(net+4, third, 12, api.OK) // one has gone just now
	x.near(12, who(net+2, second, 16), who(net+4, third, 22))
	x.learns(net+2, own, 13, api.OK) // its own card's address is one alone's
	x.has(net+2, 13, own)
}

func TestLearnWrong(t *testing.T) { // P17.4: ErrArg, ahead of ErrFull
	x := made(t, 1, 10)
	wrong := func() {
		t.Helper()
		for _, mac := range noMacs {
			x.learns(net+2, mac, 3, api.ErrArg)
			x.learns(net+3, mac, 3, api.ErrArg)
		}
		for _, addr := range append(noAddrs, ownAddr) {
			x.learns(addr, second, 3, api.ErrArg)
		}
		for _, now := range noTimes {
			x.learns(net+2, second, now, api.ErrArg)
			x.learns(net+3, second, now, api.ErrArg)
		}
		x.learns(0, "", 3, api.ErrArg)
	}
	wrong()
	x.near(3)
	x.learns(net+2, third, 3, api.OK)
	wrong()
	x.near(3, who(net+2, third, 13))
}

func TestEdgesOfTime(t *testing.T) { // P17.4, P17.5: the first and the last time, the least and the greatest life
	for _, life := range []uint64{1, 1 << 32} {
		x := made(t, 1, life)
		x.learns(net+2, second, 0, api.OK)
		x.near(0, who(net+2, second, life))
		x.has(net+2, life-1, second)
		x.lacks(net+2, life, api.ErrNone)
		x.learns(net+2, second, farthest, api.OK)
		x.near(farthest, who(net+2, second, farthest+life))
		x.has(net+2, farthest, second)
		x.takes(ask(third, net+2, ownAddr), farthest, answer(third, net+2))
		x.has(net+2, farthest, third)
	}
}

func TestWrongTimes(t *testing.T) { // P17.4, P17.5: at a time that may not be nobody goes
	x := made(t, 4, 10)
	x.learns(net+2, second, 5, api.OK)
	x.learns(net+3, third, 7, api.OK)
	for _, now := range noTimes {
		x.lacks(net+2, now, api.ErrArg)
		x.lacks(net+9, now, api.ErrArg)
		x.learns(net+2, third, now, api.ErrArg)
		x.refuses(ask(third, net+2, ownAddr), now)
		x.near(now, who(net+2, second, 15), who(net+3, third, 17))
	}
	x.near(14, who(net+2, second, 15), who(net+3, third, 17))
	x.near(15, who(net+3, third, 17))
	x.near(1<<62, who(net+3, third, 17))
}

func TestThoseGo(t *testing.T) { // Words: by each call with a time those go whose time is not above it: an earlier time does not bring them back
	for name, call := range map[string]func(table, uint64){
		"Near":              func(x table, now uint64) { x.Near(now) },
		"Lookup":            func(x table, now uint64) { x.Lookup(net+9, now) },
		"Learn":             func(x table, now uint64) { x.Learn(net+4, second, now) },
		"Learn, full":       func(x table, now uint64) { x.Learn(net+5, second, now); x.Learn(net+6, second, now) },
		"Learn, wrong":      func(x table, now uint64) { x.Learn(0, second, now) },
		"Learn, wrong card": func(x table, now uint64) { x.Learn(net+4, all, now) },
		"Learn, its own":    func(x table, now uint64) { x.Learn(ownAddr, second, now) },
		"Take":              func(x table, now uint64) { x.Take(ask(second, net+4, net+9), now) },
		"Take, own":         func(x table, now uint64) { x.Take(ask(second, net+4, ownAddr), now) },
		"Take, wrong":       func(x table, now uint64) { x.Take(api.Arp{}, now) },
		"Take, its own":     func(x table, now uint64) { x.Take(ask(second, ownAddr, ownAddr), now) },
	} {
		x := made(t, 3, 10)
		x.learns(net+2, second, 5, api.OK)
		x.learns(net+3, third, 8, api.OK)
		call(x, 14) // nobody goes
		x.has(net+2, 5, second)
		x.has(net+3, 5, third)
		call(x, 15) // one does
		if s, e := x.Lookup(net+2, 5); s != "" || e != api.ErrNone {
			t.Errorf("%s: who has gone is back: %x %v", name, s, e)
		}
		if s, e := x.Lookup(net+3, 5); s != third || e != api.OK {
			t.Errorf("%s: who is near has gone: %x %v", name, s, e)
		}
		call(x, 1000)
		if s, e := x.Lookup(net+3, 5); s != "" || e != api.ErrNone {
			t.Errorf("%s: who has gone is back: %x %v", name, s, e)
		}
	}
	x := made(t, 3, 10)
	x.learns(net+2, second, 5, api.OK)
	x.Ask(net + 2) // has no time
	x.has(net+2, 14, second)
}

func TestEarlier(t *testing.T) { // P17.5: at whatever times
	x := made(t, 3, 10)
	x.learns(net+2, second, 50, api.OK)
	x.has(net+2, 0, second)
	x.learns(net+3, third, 0, api.OK)
	x.near(0, who(net+2, second, 60), who(net+3, third, 10))
	x.near(10, who(net+2, second, 60))
	x.learns(net+2, third, 0, api.OK)
	x.near(9, who(net+2, third, 10))
	x.near(10)
}

func TestTake(t *testing.T) { // P17.4: who is learnt, and who is answered
	x := made(t, 2, 10)
	said := func(op uint16, mac string, addr, to uint32) api.Arp {
		a := ask(mac, addr, to)
		a.Op = op
		return a
	}
	x.takes(said(1, second, net+2, net+9), 1) // somebody else is asked: nobody who is not near is learnt
	x.takes(said(2, second, net+2, net+9), 1)
	x.takes(said(1, second, net+2, net+2), 1) // it tells of itself
	x.near(1)
	x.takes(said(2, second, net+2, ownAddr), 1) // an answer is learnt, and not answered
	x.near(1, who(net+2, second, 11))
	x.takes(said(1, third, net+2, net+9), 2) // who is near is learnt, whoever is asked
	x.near(2, who(net+2, third, 12))
	x.takes(said(2, second, net+2, net+2), 3)
	x.near(3, who(net+2, second, 13))
	x.takes(said(1, third, net+3, ownAddr), 4, answer(third, net+3)) // a question is both
	x.near(4, who(net+2, second, 13), who(net+3, third, 14))
	x.takes(said(1, second, net+3, ownAddr), 5, answer(second, net+3))
	x.near(5, who(net+2, second, 13), who(net+3, second, 15))
	x.takes(said(1, own, net+3, ownAddr), 5, answer(own, net+3)) // its own card's address is one alone's
	x.near(5, who(net+2, second, 13), who(net+3, own, 15))
	x.takes(said(1, third, net+2, net+9), 13) // who was near till now is not
	x.near(13, who(net+3, own, 15))
}

func TestTakeFull(t *testing.T) { // P17.4: where there is no room, a question is answered, and who is there stays
	x := made(t, 2, 10)
	x.learns(net+2, second, 1, api.OK)
	x.learns(net+3, third, 1, api.OK)
	x.takes(ask(second, net+4, ownAddr), 2, answer(second, net+4))
	other := ask(second, net+4, ownAddr)
	other.Op = api.ArpAnswer
	x.takes(other, 2)
	x.near(2, who(net+2, second, 11), who(net+3, third, 11))
	x.takes(ask(own, net+2, ownAddr), 3, answer(own, net+2)) // one of them is learnt anew
	x.near(3, who(net+2, own, 13), who(net+3, third, 11))
	x.takes(ask(second, net+4, ownAddr), 11, answer(second, net+4)) // now there is room
	x.near(11, who(net+2, own, 13), who(net+4, second, 21))
}

func TestTakeTo(t *testing.T) { // P17.4: of whom it is for, the address alone counts
	for _, to := range []string{nobody, all, own, second, "\x01\x02\x03\x04\x05\x06"} {
		x := made(t, 2, 10)
		a := ask(second, net+2, ownAddr)
		a.To = to
		x.takes(a, 1, answer(second, net+2))
		a.FromAddr, a.ToAddr = net+3, net+9
		x.takes(a, 1)
		x.near(1, who(net+2, second, 11))
		a.ToAddr = 0
		x.takes(a, 1)
		a.ToAddr = 0xffffffff
		x.takes(a, 1)
		x.near(1, who(net+2, second, 11))
	}
}

func TestTakeWrong(t *testing.T) { // P17.4
	x := made(t, 2, 10)
	wrong := func() {
		t.Helper()
		for _, op := range []uint16{0, 3, 256, 257, 512, 65535} {
			a := ask(third, net+2, ownAddr)
			a.Op = op
			x.refuses(a, 1)
		}
		for _, mac := range noMacs {
			x.refuses(ask(mac, net+2, ownAddr), 1)
			x.refuses(ask(mac, net+2, net+9), 1)
		}
		for _, addr := range append(noAddrs, ownAddr) {
			x.refuses(ask(third, addr, ownAddr), 1)
			x.refuses(ask(third, addr, net+9), 1)
		}
		for _, to := range []string{"", "t", "ttttt", "ttttttt"} {
			a := ask(third, net+2, ownAddr)
			a.To = to
			x.refuses(a, 1)
		}
		for _, now := range noTimes {
			x.refuses(ask(third, net+2, ownAddr), now)
			x.refuses(ask(third, net+2, net+9), now)
		}
		x.refuses(api.Arp{}, 1)
	}
	wrong()
	x.near(1)
	x.learns(net+2, second, 1, api.OK)
	wrong()
	x.near(1, who(net+2, second, 11))
}

func TestLookup(t *testing.T) { // P17.5: of any address, near or not, one alone's or not
	x := made(t, 3, 10)
	x.learns(net+2, second, 1, api.OK)
	x.learns(net+4, third, 1, api.OK)
	x.has(net+2, 1, second)
	x.has(net+4, 10, third)
	for _, addr := range append(noAddrs, ownAddr, net+3, net+5, net, net+258, 0x02000a0a) {
		x.lacks(addr, 10, api.ErrNone)
		x.lacks(addr, 1<<62, api.ErrArg)
	}
	x.has(net+2, 10, second)
	x.lacks(net+2, 11, api.ErrNone)
}

func TestAsk(t *testing.T) { // P17.5: of any address
	x := made(t, 1, 10)
	x.learns(net+2, second, 1, api.OK)
	for _, addr := range append(noAddrs, ownAddr, net+2, net+3) {
		if a := x.Ask(addr); a != (api.Arp{Op: api.ArpAsk, From: own, FromAddr: ownAddr, To: nobody, ToAddr: addr}) {
			t.Errorf("Ask(%x): %v", addr, a)
		}
		if s, e := link.EncodeArp(x.Ask(addr)); len(s) != 28 || e != api.OK {
			t.Errorf("its bytes: %q %v", s, e)
		}
	}
	x.near(1, who(net+2, second, 11))
}

func TestTwo(t *testing.T) { // P17.4, P17.5: what one asks, another one answers: both are near one another then
	x := made(t, 1, 10)
	y, e := link.New(second, net+2, 1, 20)
	if e != api.OK {
		t.Fatal(e)
	}
	b, is, e := y.Take(x.Ask(net+2), 3)
	if !is || e != api.OK {
		t.Fatalf("Take: %v %v %v", b, is, e)
	}
	x.takes(b, 4)
	x.near(4, who(net+2, second, 14))
	table{y, t}.near(4, who(ownAddr, own, 23))
	table{y, t}.takes(x.Ask(net+7), 5) // for another one: who is near is learnt anew
	table{y, t}.near(5, who(ownAddr, own, 25))
}

func TestRising(t *testing.T) { // P17.5: whatever the order in which they came; the limit: MaxNear
	for step := uint32(1); step < 64; step += 2 { // each k times an odd step, modulo 64, is another one
		x := made(t, api.MaxNear, 100)
		for k := range uint32(64) {
			x.learns(0x01000000+(k*step%64)<<22, second, uint64(k), api.OK)
		}
		l := x.Near(99)
		if len(l) != 64 || !slices.IsSortedFunc(l, func(a, b api.Near) int {
			if a.Addr < b.Addr {
				return -1
			}
			return 1
		}) {
			t.Fatalf("by the step %d: %v", step, l)
		}
		x.learns(net+200, second, 99, api.ErrFull)
		x.takes(ask(second, net+200, ownAddr), 99, answer(second, net+200))
		for k := range uint32(64) {
			x.has(0x01000000+k<<22, 99, second)
		}
		x.lacks(net+200, 99, api.ErrNone)
		x.learns(net+200, second, 100, api.OK)
		if l := x.Near(100); len(l) != 64 {
			t.Fatalf("there are %d", len(l))
		}
	}
}

func TestAnswersAreNew(t *testing.T) { // R5: what is done to an answer changes nothing, nor does an answer change later
	x := made(t, 3, 10)
	x.learns(net+3, third, 1, api.OK)
	x.learns(net+4, third, 2, api.OK)
	l := x.Near(2)
	l[0] = who(1, "x", 3)
	_ = append(l[:1], who(2, "y", 4))
	x.near(2, who(net+3, third, 11), who(net+4, third, 12))
	l = x.Near(2)
	l = append(l, who(3, "z", 5))
	x.learns(net+2, second, 3, api.OK)
	x.learns(net+3, second, 3, api.OK)
	x.near(12, who(net+2, second, 13), who(net+3, second, 13))
	if !slices.Equal(l, []api.Near{who(net+3, third, 11), who(net+4, third, 12), who(3, "z", 5)}) {
		t.Errorf("an answer changes later: %v", l)
	}
	y := made(t, 3, 10)
	x.Near(100)
	y.learns(net+2, second, 1, api.OK)
	x.near(1) // each table is its own
}
