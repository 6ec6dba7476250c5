package ring_test

import (
	"math/rand"
	"slices"
	"testing"

	"pharos/api"
	"pharos/mem"
	"pharos/ring"
)

// model is a ring told byte by byte, as the document has it: nothing of it is reckoned as the package does.
type model struct {
	at, size int
	bytes    []byte
	lent     []bool
	chains   map[int][]api.Buf
	descs    map[int][]int
	added    int
	polled   int
	broken   bool
}

func newModel(bytes, at, size int) *model {
	o := &model{at: at, size: size, bytes: make([]byte, bytes), lent: make([]bool, bytes), chains: map[int][]api.Buf{}, descs: map[int][]int{}}
	for k := o.used(); k < o.used()+6+8*size; k++ {
		o.lent[k] = true
	}
	return o
}

func (o *model) avail() int { return o.at + 16*o.size }

func (o *model) used() int {
	k := o.avail() + 2 + 2 + 2*o.size + 2
	for k%4 != 0 {
		k++
	}
	return k
}

func (o *model) put(at, n, x int) {
	for k := range n {
		o.bytes[at+k] = byte(x)
		x >>= 8
	}
}

func (o *model) get(at, n int) int {
	x := 0
	for k := n - 1; k >= 0; k-- {
		x = x<<8 + int(o.bytes[at+k])
	}
	return x
}

func (o *model) free() []int {
	taken := map[int]int{}
	for _, l := range o.descs {
		for _, k := range l {
			taken[k]++
		}
	}
	var l []int
	for k := range o.size {
		if taken[k] == 0 {
			l = append(l, k)
		}
	}
	return l
}

func (o *model) add(l []api.Buf) (int, api.Errno) {
	if o.broken {
		return 0, api.ErrRing
	}
	if len(l) == 0 || len(l) > api.MaxChain {
		return 0, api.ErrArg
	}
	for i, b := range l {
		if b.Len == 0 || i > 0 && l[i-1].In && !b.In {
			return 0, api.ErrArg
		}
	}
	for _, b := range l {
		if int(b.At)+int(b.Len) > len(o.bytes) {
			return 0, api.ErrOut
		}
	}
	free := o.free()
	if len(free) < len(l) {
		return 0, api.ErrFull
	}
	lent := slices.Clone(o.lent)
	for _, b := range l {
		for k := int(b.At); b.In && k < int(b.At+b.Len); k++ {
			if lent[k] || k >= o.at && k < o.used()+6+8*o.size {
				return 0, api.ErrLent
			}
			lent[k] = true
		}
	}
	o.lent = lent
	for i, b := range l {
		flags, next := 0, 0
		if i+1 < len(l) {
			flags, next = 1, free[i+1]
		}
		if b.In {
			flags += 2
		}
		d := o.at + 16*free[i]
		o.put(d, 8, int(b.At))
		o.put(d+8, 4, int(b.Len))
		o.put(d+12, 2, flags)
		o.put(d+14, 2, next)
	}
	o.put(o.avail()+4+2*(o.added%o.size), 2, free[0])
	o.added++
	o.put(o.avail()+2, 2, o.added)
	o.chains[free[0]], o.descs[free[0]] = slices.Clone(l), free[:len(l)]
	return free[0], api.OK
}

func (o *model) poll() (api.Done, bool, api.Errno) {
	if o.broken {
		return api.Done{}, false, api.ErrRing
	}
	ready := (o.get(o.used()+2, 2) - o.polled%65536 + 65536) % 65536
	if ready == 0 {
		return api.Done{}, false, api.OK
	}
	head := o.get(o.used()+4+8*(o.polled%o.size), 4)
	n := o.get(o.used()+8+8*(o.polled%o.size), 4)
	l, waits := o.chains[head]
	for _, b := range l {
		if b.In {
			n -= int(b.Len)
		}
	}
	if ready > len(o.chains) || !waits || n > 0 {
		o.broken = true
		return api.Done{}, false, api.ErrRing
	}
	n = o.get(o.used()+8+8*(o.polled%o.size), 4)
	for _, b := range l {
		for k := int(b.At); b.In && k < int(b.At+b.Len); k++ {
			o.lent[k] = false
		}
	}
	delete(o.chains, head)
	delete(o.descs, head)
	o.polled++
	return api.Done{Head: uint16(head), Len: uint32(n)}, true, api.OK
}

func (o *model) device(at int, s string) api.Errno {
	for k := at; k < at+len(s); k++ {
		if k >= len(o.lent) {
			return api.ErrOut
		}
	}
	for k := at; k < at+len(s); k++ {
		if !o.lent[k] {
			return api.ErrKept
		}
	}
	copy(o.bytes[at:], s)
	return api.OK
}

// state is what must be seen of the ring and its memory.
func (o *model) state() state {
	s := state{bytes: string(o.bytes), waits: len(o.chains), left: len(o.free()), chains: map[uint16][]api.Buf{}}
	for k, l := range o.lent {
		if l && k > 0 && o.lent[k-1] {
			s.lent[len(s.lent)-1].Len++
		} else if l {
			s.lent = append(s.lent, span(uint32(k), 1))
		}
	}
	for h, l := range o.chains {
		s.chains[uint16(h)] = l
	}
	return s
}

// game is a ring and its model, to which the same is done.
type game struct {
	t *testing.T
	d *rand.Rand
	m *mem.Mem
	r *ring.Ring
	o *model
}

func newGame(t *testing.T, d *rand.Rand) *game {
	size := 1 << d.Intn(5)
	at := 16 * d.Intn(4)
	bytes := at + ring.Size(size) + d.Intn(200)
	m, _ := mem.New(bytes)
	return &game{t, d, m, fresh(t, m, uint32(at), size), newModel(bytes, at, size)}
}

// buf is a buffer that mostly may be.
func (g *game) buf(in bool) api.Buf {
	at := g.d.Intn(len(g.o.bytes) + 2)
	if g.d.Intn(4) > 0 { // behind the ring
		behind := g.o.used() + 6 + 8*g.o.size
		at = behind + g.d.Intn(len(g.o.bytes)-behind+2)
	}
	n := 1 + g.d.Intn(8)
	if g.d.Intn(40) == 0 {
		n = 0
	}
	return api.Buf{At: uint32(at), Len: uint32(n), In: in}
}

func (g *game) add() {
	n := 1 + g.d.Intn(3)
	if g.d.Intn(10) == 0 {
		n = g.d.Intn(api.MaxChain + 2)
	}
	outs := g.d.Intn(n + 1)
	l := make([]api.Buf, n)
	for i := range l {
		l[i] = g.buf(i >= outs != (g.d.Intn(30) == 0))
	}
	h, e := g.r.Add(l)
	if wantH, wantE := g.o.add(l); int(h) != wantH || e != wantE {
		g.t.Fatalf("Add(%v): %d %v, want %d %v", l, h, e, wantH, wantE)
	}
}

// write is what a device does, whatever it is.
func (g *game) write(at int, s string) {
	e := g.m.Device(uint32(at), s)
	if want := g.o.device(at, s); e != want {
		g.t.Fatalf("Device(%d, %q): %v, want %v", at, s, e, want)
	}
}

// use is what a device does that mostly keeps to the rules: it uses a chain that waits.
func (g *game) use() {
	o := g.o
	var heads []int
	for h := range o.chains {
		heads = append(heads, h)
	}
	slices.Sort(heads)
	if len(heads) == 0 {
		return
	}
	h, room := heads[g.d.Intn(len(heads))], 0
	for _, b := range o.chains[h] {
		if b.In {
			room += int(b.Len)
		}
	}
	index := o.get(o.used()+2, 2)
	if g.d.Intn(100) == 0 { // a mischief
		h, room = h+g.d.Intn(3)-1, room+g.d.Intn(2)
		index += g.d.Intn(3)
	}
	g.write(o.used()+4+8*(index%o.size), low(uint64(h), 4)+low(uint64(g.d.Intn(room+1)), 4))
	g.write(o.used()+2, low(uint64(index+1), 2))
}

func (g *game) poll() {
	d, is, e := g.r.Poll()
	if wantD, wantIs, wantE := g.o.poll(); d != wantD || is != wantIs || e != wantE {
		g.t.Fatalf("Poll: %v %v %v, want %v %v %v", d, is, e, wantD, wantIs, wantE)
	}
}

func (g *game) step() {
	switch x := g.d.Intn(40); {
	case x < 12:
		g.add()
	case x < 20:
		g.use()
		g.poll()
	case x < 34:
		g.poll()
	case x < 39:
		g.write(g.d.Intn(len(g.o.bytes)), low(g.d.Uint64(), g.d.Intn(4)))
	default:
		g.use()
	}
	if g.r.Broken() != g.o.broken {
		g.t.Fatal("broken:", g.r.Broken())
	}
	if got, want := all(g.t, g.m, g.r), g.o.state(); !got.same(want) {
		g.t.Fatalf("it stands so:\n%v\nmust stand so:\n%v", got, want)
	}
}

func TestModel(t *testing.T) { // P2.1 to P2.5: whatever comes, in any order
	d := rand.New(rand.NewSource(2))
	steps, broken, adds := 0, 0, 0
	for range 600 {
		g := newGame(t, d)
		for k := 0; k < 120; k++ {
			g.step()
			steps++
			if g.o.broken { // a little on, to see that it stays so
				k += 20
			}
		}
		adds += g.o.added
		if g.o.broken {
			broken++
		}
	}
	if broken < 50 || broken > 590 || adds < steps/20 {
		t.Errorf("a game that says little: %d steps, %d chains, %d of 600 broken", steps, adds, broken)
	}
	t.Logf("%d steps, %d chains, %d of 600 broken", steps, adds, broken)
}
