package link_test

import (
	"fmt"
	"math/rand"
	"slices"
	"testing"

	"pharos/api"
	"pharos/link"
)

// event is what happened to a table by one call with a time that may be: the time, and what was learnt then, if something was.
type event struct {
	now  uint64
	addr uint32 // 0: nothing
	mac  string
}

// model is a table told by all that happened to it: who is near is not kept, but looked up in that.
type model struct {
	mac    string
	addr   uint32
	most   int
	life   uint64
	events []event
}

// of is who was learnt last of that address, unless it has gone since.
func (o *model) of(addr uint32) (api.Near, bool) {
	last := -1
	for k, x := range o.events {
		if x.addr == addr {
			last = k
		}
	}
	if addr == 0 || last < 0 {
		return api.Near{}, false
	}
	x := o.events[last]
	n := api.Near{Addr: addr, Mac: x.mac, Until: x.now + o.life}
	for _, later := range o.events[last:] {
		if later.now >= n.Until {
			return api.Near{}, false
		}
	}
	return n, true
}

// near is all who are.
func (o *model) near() []api.Near {
	var addrs []uint32
	for _, x := range o.events {
		addrs = append(addrs, x.addr)
	}
	slices.Sort(addrs)
	var l []api.Near
	for _, a := range slices.Compact(addrs) {
		if n, is := o.of(a); is {
			l = append(l, n)
		}
	}
	return l
}

// pass is what a time does, if it may be.
func (o *model) pass(now uint64) bool {
	if now >= 1<<62 {
		return false
	}
	o.events = append(o.events, event{now: now})
	return true
}

// may tells whether a card's address and an address are another one's, word by word.
func (o *model) may(addr uint32, mac string) bool {
	first := addr >> 24
	return len(mac) == 6 && mac[0]%2 == 0 && mac != nobody && first > 0 && first < 224 && first != 127 && addr != o.addr
}

func (o *model) learn(addr uint32, mac string, now uint64) api.Errno {
	if !o.pass(now) || !o.may(addr, mac) {
		return api.ErrArg
	}
	if _, is := o.of(addr); !is && len(o.near()) >= o.most {
		return api.ErrFull
	}
	o.events = append(o.events, event{now, addr, mac})
	return api.OK
}

func (o *model) take(a api.Arp, now uint64) (api.Arp, bool, api.Errno) {
	right := o.pass(now) && o.may(a.FromAddr, a.From)
	if !right || a.Op != 1 && a.Op != 2 || len(a.To) != 6 {
		return api.Arp{}, false, api.ErrArg
	}
	if _, is := o.of(a.FromAddr); is || a.ToAddr == o.addr {
		o.learn(a.FromAddr, a.From, now)
	}
	if a.ToAddr != o.addr || a.Op != 1 {
		return api.Arp{}, false, api.OK
	}
	return api.Arp{Op: 2, From: o.mac, FromAddr: o.addr, To: a.From, ToAddr: a.FromAddr}, true, api.OK
}

func (o *model) lookup(addr uint32, now uint64) (string, api.Errno) {
	if !o.pass(now) {
		return "", api.ErrArg
	}
	n, is := o.of(addr)
	if !is {
		return "", api.ErrNone
	}
	return n.Mac, api.OK
}

// tally is how often something was seen, in all games.
type tally struct{ full, args, none, found, answered, silent, gone, most int }

// game is a table and its model, to which the same is done.
type game struct {
	t     *testing.T
	d     *rand.Rand
	x     *link.Table
	o     *model
	addrs int
	clock uint64
	count *tally
	told  []string
}

func newGame(t *testing.T, d *rand.Rand, count *tally) *game {
	most, life := 1+d.Intn(5), uint64(1+d.Intn(30))
	if d.Intn(5) == 0 {
		most, life = 1+d.Intn(64), 1<<32-uint64(d.Intn(5))
	}
	x, e := link.New(own, ownAddr, most, life)
	if e != api.OK {
		t.Fatal(e)
	}
	g := &game{t: t, d: d, x: x, o: &model{mac: own, addr: ownAddr, most: most, life: life}, addrs: 2 + d.Intn(8), count: count}
	if d.Intn(8) == 0 {
		g.clock = farthest - uint64(d.Intn(200))
	}
	return g
}

// now is a time: mostly one that goes on, now and then an earlier one, one far on, or one that may not be.
func (g *game) now() uint64 {
	switch g.d.Intn(25) {
	case 0:
		return g.clock - min(g.clock, uint64(g.d.Intn(40)))
	case 1:
		return noTimes[g.d.Intn(len(noTimes))]
	case 2:
		return g.clock + g.o.life
	default:
		g.clock += uint64(g.d.Intn(4))
		return g.clock
	}
}

// someone is an address, mostly of a few, its own among them.
func (g *game) someone() uint32 {
	if g.d.Intn(15) == 0 {
		return noAddrs[g.d.Intn(len(noAddrs))]
	}
	return net + uint32(g.d.Intn(g.addrs))
}

func (g *game) card() string {
	if g.d.Intn(15) == 0 {
		return noMacs[g.d.Intn(len(noMacs))]
	}
	return own[:5] + string([]byte{byte(g.d.Intn(4))})
}

func (g *game) arp() api.Arp {
	a := api.Arp{Op: uint16(1 + g.d.Intn(2)), From: g.card(), FromAddr: g.someone(), To: nobody, ToAddr: g.someone()}
	if g.d.Intn(15) == 0 {
		a.Op = uint16(g.d.Intn(5))
	}
	if g.d.Intn(3) == 0 {
		a.To = g.card()
	}
	if g.d.Intn(3) == 0 {
		a.ToAddr = ownAddr
	}
	return a
}

func (g *game) same(what, got, want string) {
	g.t.Helper()
	if got != want {
		g.t.Fatalf("%s: %s, want %s", what, got, want)
	}
	g.told = append(g.told, got)
}

func (g *game) learn() {
	addr, mac, now := g.someone(), g.card(), g.now()
	e := g.x.Learn(addr, mac, now)
	g.same("Learn", fmt.Sprint(e), fmt.Sprint(g.o.learn(addr, mac, now)))
	g.tell(e)
}

func (g *game) take() {
	a, now := g.arp(), g.now()
	b, is, e := g.x.Take(a, now)
	want, wantIs, wantE := g.o.take(a, now)
	g.same(fmt.Sprintf("Take(%v, %d)", a, now), fmt.Sprint(b, is, e), fmt.Sprint(want, wantIs, wantE))
	g.tell(e)
	if is {
		g.count.answered++
	} else if e == api.OK {
		g.count.silent++
	}
}

func (g *game) lookup() {
	addr, now := g.someone(), g.now()
	s, e := g.x.Lookup(addr, now)
	want, wantE := g.o.lookup(addr, now)
	g.same("Lookup", fmt.Sprint(s, e), fmt.Sprint(want, wantE))
	g.tell(e)
	if e == api.OK {
		g.count.found++
	}
}

func (g *game) near() {
	now := g.now()
	before := len(g.o.near())
	g.o.pass(now)
	want := g.o.near()
	g.same("Near", fmt.Sprint(g.x.Near(now)), fmt.Sprint(want))
	g.count.gone += before - len(want)
}

func (g *game) tell(e api.Errno) {
	switch e {
	case api.ErrFull:
		g.count.full++
	case api.ErrArg:
		g.count.args++
	case api.ErrNone:
		g.count.none++
	}
}

func (g *game) step() {
	switch x := g.d.Intn(20); {
	case x < 6:
		g.learn()
	case x < 13:
		g.take()
	case x < 17:
		g.lookup()
	default:
		g.near()
	}
	l := g.x.Near(1 << 62) // as they are
	g.same("who is near", fmt.Sprint(l), fmt.Sprint(g.o.near()))
	if len(l) > g.o.most { // P17.6
		g.t.Fatalf("%d are near, of at most %d", len(l), g.o.most)
	}
	if len(l) == g.o.most {
		g.count.most++
	}
}

// P17.3 to P17.6: whatever comes, at whatever times, all is as the model has it.
func TestAsTheModel(t *testing.T) {
	d := rand.New(rand.NewSource(17))
	count := &tally{}
	for range 400 {
		g := newGame(t, d, count)
		for range 150 {
			g.step()
		}
	}
	if count.full < 1000 || count.args < 3000 || count.none < 3000 || count.found < 1000 || count.answered < 1000 || count.silent < 3000 || count.gone < 500 || count.most < 5000 {
		t.Errorf("the games say too little: %+v", *count)
	}
}

// R6: what is done again has the same answers.
func TestAgain(t *testing.T) {
	told := func() []string {
		g := newGame(t, rand.New(rand.NewSource(11)), &tally{})
		for range 200 {
			g.step()
		}
		return g.told
	}
	if !slices.Equal(told(), told()) {
		t.Error("another time, other answers")
	}
}

// P17.6: what Lookup answers was learnt of that address, last, at most a life ago; nothing that goes on is forgotten while there is room.
func TestWhatIsLookedUp(t *testing.T) {
	d := rand.New(rand.NewSource(6))
	type last struct {
		mac string
		at  uint64
	}
	const life = 20
	x := made(t, 64, life)
	learnt := map[uint32]last{}
	found, none := 0, 0
	for now := uint64(0); now < 20000; now += uint64(d.Intn(3)) {
		addr := net + 2 + uint32(d.Intn(60))
		mac := drawn(d, 6)
		switch d.Intn(4) {
		case 0:
			if e := x.Learn(addr, mac, now); e == api.OK {
				learnt[addr] = last{mac, now}
			}
		case 1:
			if _, is, _ := x.Take(ask(mac, addr, ownAddr), now); is {
				learnt[addr] = last{mac, now}
			}
		default:
			mac, e := x.Lookup(addr, now)
			was, is := learnt[addr]
			fresh := is && now-was.at < life
			if fresh != (e == api.OK) || e == api.OK && mac != was.mac {
				t.Fatalf("Lookup(%x, %d): %x %v, learnt: %v", addr, now, mac, e, was)
			}
			if fresh {
				found++
			} else {
				none++
			}
		}
	}
	if found < 500 || none < 500 {
		t.Errorf("it says too little: %d, %d", found, none)
	}
}
