package cache_test

import (
	"cmp"
	"math/rand"
	"slices"
	"testing"

	"pharos/api"
)

// model is a cache, and its disk, told as the chapters have it: each block tells when it was used last, each request what it is; nothing stands in an order.
type model struct {
	image  string
	c      api.BlkConf
	most   int
	known  bool // the mount's digests
	clock  int
	used   map[uint32]int // when each block that it has was used last
	last   int            // the number of the last request
	asks   []modelAsk     // those that wait, by rising numbers
	came   []modelAsk     // what the device brought, in order, and nobody polled
	broken bool           // by the device, and nobody polled
	failed bool
}

// modelAsk is a request, whose it is, and what was brought for it.
type modelAsk struct {
	id    int
	block uint32
	mine  bool
	data  string
	bad   bool
}

// tick is a time behind all others.
func (o *model) tick() int {
	o.clock++
	return o.clock
}

// sum is what a mount answers of a block.
func (o *model) sum(b uint32) api.Errno {
	blocks := uint32(len(o.image) / 1024)
	switch {
	case !o.known:
		return api.ErrState
	case b == 0 || b >= blocks || b <= (blocks+31)/32:
		return api.ErrNone
	}
	return api.OK
}

// read is what a disk answers.
func (o *model) read(b uint32, mine bool) api.Errno {
	switch {
	case o.failed:
		return api.ErrFailed
	case b >= o.c.Blocks:
		return api.ErrArg
	case len(o.asks) == o.c.Slots || 3*(len(o.asks)+1) > o.c.Ring:
		return api.ErrFull
	}
	o.last++
	o.asks = append(o.asks, modelAsk{id: o.last, block: b, mine: mine})
	return api.OK
}

func (o *model) waits() []uint32 {
	var l []uint32
	for _, a := range o.asks {
		if a.mine {
			l = append(l, a.block)
		}
	}
	slices.Sort(l)
	return l
}

func (o *model) has() []uint32 {
	var l []uint32
	for b := range o.used {
		l = append(l, b)
	}
	slices.SortFunc(l, func(a, b uint32) int { return cmp.Compare(o.used[a], o.used[b]) })
	return l
}

func (o *model) get(b uint32) (string, api.Errno) {
	if e := o.sum(b); e != api.OK {
		return "", e
	}
	if o.used[b] > 0 {
		o.used[b] = o.tick()
		return at(o.image, b), api.OK
	}
	if slices.Contains(o.waits(), b) {
		return "", api.ErrWait
	}
	if e := o.read(b, true); e != api.OK {
		return "", e
	}
	return "", api.ErrWait
}

// poll is what the disk answers, and what comes of each for the cache.
func (o *model) poll() ([]api.Came, api.Errno) {
	if o.failed {
		return nil, api.ErrFailed
	}
	var l []api.Came
	for _, a := range o.came {
		if o.failed || o.broken {
			break
		}
		o.asks = slices.DeleteFunc(o.asks, func(x modelAsk) bool { return x.id == a.id })
		o.failed = a.bad
		l = append(l, o.take(a)...)
	}
	o.came = nil
	if !o.failed && !o.broken {
		return l, api.OK
	}
	o.failed = true
	for _, a := range o.asks {
		a.bad = true
		l = append(l, o.take(a)...)
	}
	o.asks = nil
	return l, api.ErrFailed
}

func (o *model) take(a modelAsk) []api.Came {
	if !a.mine {
		return nil
	}
	if a.bad {
		return []api.Came{not(a.block, api.ErrIO)}
	}
	if sha(a.data) != sha(at(o.image, a.block)) {
		return []api.Came{not(a.block, api.ErrSum)}
	}
	o.used[a.block] = o.tick()
	if len(o.used) > o.most {
		delete(o.used, o.has()[0])
	}
	return []api.Came{ok(a.block)}
}

// game is a cache and its model, to which the same is done.
type game struct {
	*rig
	o     *model
	d     *rand.Rand
	evil  int // one in so many is a mischief
	tally map[string]int
}

func newGame(t *testing.T, d *rand.Rand, images []string, tally map[string]int) *game {
	image := images[d.Intn(len(images))]
	blocks := len(image) / 1024
	c := conf(1<<(2+d.Intn(5)), 1+d.Intn(8), uint32(blocks))
	if d.Intn(5) == 0 {
		c.Blocks = uint32(blocks - 2 + d.Intn(5))
	}
	most := 1 + d.Intn(6)
	m, known := ready(t, image), true
	if d.Intn(6) == 0 {
		m, known = young(t, image), false
	}
	o := &model{image: image, c: c, most: most, known: known, used: map[uint32]int{}}
	return &game{rig: of(t, image, m, c, most), o: o, d: d, evil: 3 + d.Intn(100), tally: tally}
}

func (g *game) mischief() bool { return g.d.Intn(g.evil) == 0 }

// block is one of the image, mostly of a few, or none.
func (g *game) block() uint32 {
	blocks := len(g.image) / 1024
	switch g.d.Intn(12) {
	case 0:
		return uint32(g.d.Intn(blocks + 3))
	case 1:
		return g.d.Uint32()
	}
	return uint32(blocks - 1 - g.d.Intn(min(blocks-2, 8)))
}

func (g *game) get() {
	b := g.block()
	s, e := g.Get(b)
	if want, wantE := g.o.get(b); s != want || e != wantE {
		g.t.Fatalf("Get(%d): %.20q %v, want %.20q %v", b, s, e, want, wantE)
	}
	if e == api.OK && sha(s) != sha(at(g.image, b)) { // P16.5
		g.t.Fatalf("Get(%d): bytes of another digest", b)
	}
	g.tally[e.Error()]++
}

// other is somebody else's ask.
func (g *game) other() {
	b := g.block()
	_, e := g.Read(b)
	if want := g.o.read(b, false); e != want {
		g.t.Fatalf("Read(%d): %v, want %v", b, e, want)
	}
}

// learn gives the mount what it wants.
func (g *game) learn() {
	if l := g.mount.Wants(); len(l) > 0 {
		g.mount.Give(l[0], at(g.image, l[0]))
	}
	if _, e := g.mount.Sum(0); e == api.ErrNone {
		g.o.known = true
	}
}

// serve lets the device answer one of its asks: mostly as it must be.
func (g *game) serve() {
	l := g.asked()
	if len(l) == 0 || g.o.failed || g.o.broken {
		return
	}
	n := g.d.Intn(len(l))
	k := g.open(n)
	a := g.o.asks[k]
	a.data = at(g.image+at(g.image, 0)+at(g.image, 0)+at(g.image, 0), a.block)
	switch {
	case g.mischief():
		a.data = turned(a.data, g.d.Intn(8*1024))
	case g.mischief():
		a.data = at(g.image, uint32(g.d.Intn(len(g.image)/1024)))
	}
	status, size := "\x00", uint32(1025)
	if g.mischief() && g.mischief() {
		status, a.bad = "\x02", true
	} else if g.mischief() && g.mischief() {
		size, a.bad = uint32(g.d.Intn(1025)), true
	}
	g.o.came = append(g.o.came, a)
	g.answer(n, a.data, status, size)
}

// open is the place, among those that wait, of the n-th that the device has not answered.
func (g *game) open(n int) int {
	for k, a := range g.o.asks {
		if slices.ContainsFunc(g.o.came, func(x modelAsk) bool { return x.id == a.id }) {
			continue
		}
		if n == 0 {
			return k
		}
		n--
	}
	g.t.Fatal("the device is asked for more than the model has")
	return 0
}

// smash lets the device write an index that can't be.
func (g *game) smash() {
	if !g.o.failed && g.mischief() {
		g.write(g.Ring().Used()+2, "\xff\x7f")
		g.o.broken = true
	}
}

func (g *game) poll() {
	l, e := g.Poll()
	if want, wantE := g.o.poll(); !slices.Equal(l, want) || e != wantE {
		g.t.Fatalf("Poll: %v %v, want %v %v", l, e, want, wantE)
	}
	for _, c := range l {
		g.tally["came: "+c.Err.Error()]++
	}
}

func (g *game) step() {
	switch x := g.d.Intn(40); {
	case x < 18:
		g.get()
	case x < 29:
		g.serve()
	case x < 37:
		g.poll()
	case x < 38:
		g.other()
	case x < 39:
		g.learn()
	default:
		g.smash()
	}
	g.check()
}

// check fails unless all that can be seen is as the model has it, and as P16.5 says.
func (g *game) check() {
	has, waits := g.Has(), g.Waits()
	if !slices.Equal(has, g.o.has()) || !slices.Equal(waits, g.o.waits()) {
		g.t.Fatalf("it has %v, waits for %v, must be %v, %v", has, waits, g.o.has(), g.o.waits())
	}
	if len(has) > g.most {
		g.t.Fatalf("it has %d blocks, at most %d", len(has), g.most)
	}
	all := slices.Sorted(slices.Values(append(has, waits...)))
	if len(slices.Compact(all)) != len(has)+len(waits) {
		g.t.Fatalf("a block stands twice: it has %v, waits for %v", has, waits)
	}
	if g.Disk.Waits() != len(g.o.asks) || g.Failed() != g.o.failed {
		g.t.Fatalf("%d requests, failed %v, must be %d, %v", g.Disk.Waits(), g.Failed(), len(g.o.asks), g.o.failed)
	}
}

func TestModel(t *testing.T) { // P16.2 to P16.5: whatever is asked, whatever the device brings, in any order
	d := rand.New(rand.NewSource(16))
	images := []string{picture(t, 5), picture(t, 14), picture(t, 40), built(t, string(make([]byte, 5000)))}
	tally := map[string]int{}
	for range 500 {
		g := newGame(t, d, images, tally)
		for range 200 {
			g.step()
		}
		if g.o.failed {
			tally["failed"]++
		}
	}
	for what, least := range map[string]int{
		"error 0": 4000, "error 160": 4000, "error 5": 1000, "error 3": 100, "error 6": 500, "error 41": 1000, "error 2": 20,
		"came: error 0": 5000, "came: error 152": 200, "came: error 40": 100, "failed": 50,
	} {
		if tally[what] < least {
			t.Errorf("games that say little: %s: %d times", what, tally[what])
		}
	}
	if tally["failed"] > 400 {
		t.Errorf("%d of 500 disks failed", tally["failed"])
	}
	t.Log(tally)
}
