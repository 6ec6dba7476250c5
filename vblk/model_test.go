package vblk_test

import (
	"math/rand"
	"slices"
	"testing"

	"pharos/api"
	"pharos/mem"
	"pharos/vblk"
)

// model is a disk told byte by byte, as the document has it: nothing of it is reckoned as the packages do.
type model struct {
	bytes  []byte
	lent   []bool
	at     int // the ring
	size   int
	pool   int
	slots  []bool // which buffers are taken
	descs  []bool // which descriptors are
	chains map[int]ask
	blocks uint32
	added  int
	polled int
	broken bool
	failed bool
	waits  []ask // by rising numbers
	last   int
}

// ask is a request, and its chain.
type ask struct {
	id    int
	block uint32
	place int
	descs [3]int
}

func (o *model) avail() int { return o.at + 16*o.size }

func (o *model) used() int {
	k := o.avail() + 6 + 2*o.size
	for k%4 != 0 {
		k++
	}
	return k
}

func newModel(c api.BlkConf, from, bytes int) *model {
	o := &model{bytes: make([]byte, bytes), lent: make([]bool, bytes), at: from, size: c.Ring, chains: map[int]ask{}}
	o.blocks, o.pool = c.Blocks, from+ringSizes[c.Ring][1]
	o.slots, o.descs = make([]bool, c.Slots), make([]bool, c.Ring)
	o.lend(o.used(), 6+8*c.Ring, true)
	return o
}

func (o *model) lend(at, n int, lent bool) {
	for k := range n {
		o.lent[at+k] = lent
	}
}

func (o *model) put(at, n, x int) {
	for k := range n {
		o.bytes[at+k] = byte(x)
		x >>= 8
	}
}

func (o *model) get(at, n int) int {
	x := 0
	for k := n - 1; k >= 0; k-- {
		x = x<<8 + int(o.bytes[at+k])
	}
	return x
}

func (o *model) read(block uint32) (int, api.Errno) {
	if o.failed {
		return 0, api.ErrFailed
	}
	if block >= o.blocks {
		return 0, api.ErrArg
	}
	slot := slices.Index(o.slots, false)
	if slot < 0 {
		return 0, api.ErrFull
	}
	q := ask{id: o.last + 1, block: block, place: o.pool + 1041*slot}
	o.put(q.place, 8, 0)
	o.put(q.place+8, 8, 2*int(block))
	o.put(q.place+1040, 1, 255)
	n := 0
	for k, taken := range o.descs {
		if !taken && n < 3 {
			q.descs[n] = k
			n++
		}
	}
	if n < 3 {
		return 0, api.ErrFull
	}
	o.slots[slot] = true
	o.last++
	o.add(q)
	return q.id, api.OK
}

// add writes the three descriptors, and makes the first one available.
func (o *model) add(q ask) {
	for k, x := range [][3]int{{0, 16, 1}, {16, 1024, 3}, {1040, 1, 2}} {
		d := o.at + 16*q.descs[k]
		o.put(d, 8, q.place+x[0])
		o.put(d+8, 4, x[1])
		o.put(d+12, 2, x[2])
		o.put(d+14, 2, 0)
		if k < 2 {
			o.put(d+14, 2, q.descs[k+1])
		}
		o.descs[q.descs[k]] = true
	}
	o.lend(q.place+16, 1025, true)
	o.put(o.avail()+4+2*(o.added%o.size), 2, q.descs[0])
	o.added++
	o.put(o.avail()+2, 2, o.added)
	o.chains[q.descs[0]] = q
	o.waits = append(o.waits, q)
}

func (o *model) poll() ([]api.Block, api.Errno) {
	if o.failed {
		return nil, api.ErrFailed
	}
	var l []api.Block
	for !o.failed {
		ready := (o.get(o.used()+2, 2) - o.polled%65536 + 65536) % 65536
		if ready == 0 {
			return l, api.OK
		}
		entry := o.used() + 4 + 8*(o.polled%o.size)
		n := o.get(entry+4, 4)
		q, waits := o.chains[o.get(entry, 4)]
		if ready > len(o.chains) || !waits || n > 1025 {
			o.broken, o.failed = true, true
			break
		}
		l = append(l, o.answer(q, n))
	}
	for _, q := range o.waits {
		l = append(l, bad(uint32(q.id), q.block))
	}
	o.waits = nil
	return l, api.ErrFailed
}

func (o *model) answer(q ask, n int) api.Block {
	o.polled++
	delete(o.chains, q.descs[0])
	o.waits = slices.DeleteFunc(o.waits, func(x ask) bool { return x.id == q.id })
	for _, k := range q.descs {
		o.descs[k] = false
	}
	o.slots[(q.place-o.pool)/1041] = false
	o.lend(q.place+16, 1025, false)
	if n == 1025 && o.bytes[q.place+1040] == 0 {
		return good(uint32(q.id), q.block, string(o.bytes[q.place+16:q.place+1040]))
	}
	o.failed = true
	return bad(uint32(q.id), q.block)
}

func (o *model) device(at int, s string) api.Errno {
	if at+len(s) > len(o.bytes) {
		return api.ErrOut
	}
	for k := range len(s) {
		if !o.lent[at+k] {
			return api.ErrKept
		}
	}
	copy(o.bytes[at:], s)
	return api.OK
}

func (o *model) spans() []api.Span {
	var l []api.Span
	for k, x := range o.lent {
		if x && k > 0 && o.lent[k-1] {
			l[len(l)-1].Len++
		} else if x {
			l = append(l, span(uint32(k), 1))
		}
	}
	return l
}

// game is a disk and its model, to which the same is done.
type game struct {
	t       *testing.T
	d       *rand.Rand
	m       *mem.Mem
	k       *vblk.Disk
	o       *model
	evil    int          // one in so many is a mischief
	asked   map[int]bool // the requests, and whether each was answered
	brought int
	given   int // up
}

func newGame(t *testing.T, d *rand.Rand) *game {
	c := conf(1<<d.Intn(6), 1+d.Intn(8), uint32(1+d.Intn(9)))
	if d.Intn(5) > 0 {
		c.Ring = max(c.Ring, 8)
	}
	from := 16 * d.Intn(4)
	bytes := from + vblk.Size(c) + d.Intn(20)
	m, _ := mem.New(bytes)
	k, e := vblk.New(m, uint32(from), c)
	if e != api.OK {
		t.Fatalf("New(%d, %v): %v", from, c, e)
	}
	return &game{t: t, d: d, m: m, k: k, o: newModel(c, from, bytes), evil: 3 + d.Intn(200), asked: map[int]bool{}}
}

func (g *game) mischief() bool { return g.d.Intn(g.evil) == 0 }

// text is so many bytes, whatever they are.
func (g *game) text(n int) string {
	b := make([]byte, n)
	g.d.Read(b)
	return string(b)
}

// write is what a device does, wherever that is.
func (g *game) write(at int, s string) {
	e := g.m.Device(uint32(at), s)
	if want := g.o.device(at, s); e != want {
		g.t.Fatalf("Device(%d, %.20q): %v, want %v", at, s, e, want)
	}
}

// use is what a device does that mostly keeps to the rules: it uses a chain that waits, and has not been used yet.
func (g *game) use() {
	o := g.o
	index := o.get(o.used()+2, 2)
	var heads []int
	for h := range o.chains {
		heads = append(heads, h)
	}
	slices.Sort(heads)
	for k := o.polled; k%65536 != index; k++ { // those that the driver has not polled yet
		heads = slices.DeleteFunc(heads, func(h int) bool { return h == o.get(o.used()+4+8*(k%o.size), 4) })
	}
	if len(heads) == 0 {
		return
	}
	h, n := heads[g.d.Intn(len(heads))], 1025
	place := o.chains[h].place
	g.write(place+16, g.text(g.d.Intn(1025)))
	status := "\x00"
	if g.mischief() {
		status = g.text(g.d.Intn(2))
	}
	g.write(place+1040, status)
	if g.mischief() {
		n += g.d.Intn(3) - 1
	}
	if g.mischief() {
		h += g.d.Intn(5) - 2
	}
	if g.mischief() {
		index += g.d.Intn(3)
	}
	g.write(o.used()+4+8*(index%o.size), low(uint64(h), 4)+low(uint64(n), 4))
	g.write(o.used()+2, low(uint64(index+1), 2))
}

func (g *game) read() {
	b := uint32(g.d.Intn(int(g.o.blocks)))
	if g.d.Intn(10) == 0 {
		b += uint32(g.d.Intn(3))
	}
	id, e := g.k.Read(b)
	if want, wantE := g.o.read(b); int(id) != want || e != wantE {
		g.t.Fatalf("Read(%d): %d %v, want %d %v", b, id, e, want, wantE)
	}
	if e == api.OK {
		if _, known := g.asked[int(id)]; known {
			g.t.Fatalf("the number %d is given twice", id)
		}
		g.asked[int(id)] = false
	}
}

func (g *game) poll() {
	l, e := g.k.Poll()
	if want, wantE := g.o.poll(); !slices.Equal(l, want) || e != wantE {
		g.t.Fatalf("Poll: %v %v, want %v %v", brief(l), e, brief(want), wantE)
	}
	for _, b := range l {
		if answered, known := g.asked[int(b.ID)]; answered || !known { // P4.5
			g.t.Fatalf("the request %d is answered twice, or was not made", b.ID)
		}
		g.asked[int(b.ID)] = true
		if b.Err == api.OK {
			g.brought++
		} else {
			g.given++
		}
	}
}

func (g *game) step() {
	switch x := g.d.Intn(40); {
	case x < 14:
		g.use()
	case x < 22:
		g.poll()
	case x < 39:
		g.read()
	case g.mischief():
		g.write(g.d.Intn(len(g.o.bytes)), g.text(g.d.Intn(4)))
	}
	g.look()
}

// look fails unless all that can be seen is as the model has it.
func (g *game) look() {
	o := g.o
	if s, _ := g.m.Read(0, g.m.Size()); s != string(o.bytes) {
		for k := range s {
			if s[k] != o.bytes[k] {
				g.t.Fatalf("byte %d is %d, must be %d", k, s[k], o.bytes[k])
			}
		}
	}
	if l := g.m.Lent(); !slices.Equal(l, o.spans()) {
		g.t.Fatalf("lent is %v, must be %v", l, o.spans())
	}
	r := g.k.Ring()
	if r.Waits() != len(o.chains) || r.Broken() != o.broken {
		g.t.Fatalf("%d chains wait, broken %v, must be %d, %v", r.Waits(), r.Broken(), len(o.chains), o.broken)
	}
	if g.k.Waits() != len(o.waits) || g.k.Failed() != o.failed {
		g.t.Fatalf("%d requests wait, failed %v, must be %d, %v", g.k.Waits(), g.k.Failed(), len(o.waits), o.failed)
	}
	open := 0
	for _, answered := range g.asked {
		if !answered {
			open++
		}
	}
	if open != len(o.waits) { // P4.5
		g.t.Fatalf("%d requests wait, %d are without an answer", len(o.waits), open)
	}
}

func TestModel(t *testing.T) { // P4.2 to P4.5: whatever comes, in any order
	d := rand.New(rand.NewSource(4))
	var brought, given, failed, broken int
	for range 400 {
		g := newGame(t, d)
		g.look()
		for range 120 {
			g.step()
		}
		brought, given = brought+g.brought, given+g.given
		if g.o.failed {
			failed++
		}
		if g.o.broken {
			broken++
		}
	}
	if brought < 3000 || given < 300 || failed < 100 || failed > 350 || broken < 50 || failed-broken < 50 {
		t.Errorf("games that say little: %d came, %d did not, %d of 400 failed, %d broken", brought, given, failed, broken)
	}
	t.Logf("%d came, %d did not, %d of 400 failed, %d broken", brought, given, failed, broken)
}
