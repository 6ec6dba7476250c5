package vnet_test

import (
	"math/rand"
	"slices"
	"testing"

	"pharos/api"
	"pharos/mem"
	"pharos/ring"
	"pharos/vnet"
)

// model is a card told byte by byte, as the document has it: nothing of it is reckoned as the packages do.
type model struct {
	bytes   []byte
	lent    []bool
	buf     int
	in, out half
	free    []bool // of the second pool
	goes    int    // where that stands
	lostIn  int
	lostOut int
}

// half is one ring, each of whose chains is one buffer.
type half struct {
	at, size int
	waits    map[int]place
	added    int
	polled   int
	broken   bool
}

type place struct {
	at, n int
	in    bool
}

func (h *half) avail() int { return h.at + 16*h.size }

func (h *half) used() int {
	k := h.avail() + 6 + 2*h.size
	for k%4 != 0 {
		k++
	}
	return k
}

func newModel(c api.NetConf, from, bytes int) *model {
	o := &model{bytes: make([]byte, bytes), lent: make([]bool, bytes), buf: c.Buf, free: make([]bool, c.Tx)}
	o.in = half{at: from, size: c.Rx, waits: map[int]place{}}
	o.out = half{at: from + ringSizes[c.Rx][1], size: c.Tx, waits: map[int]place{}}
	for _, h := range []half{o.in, o.out} {
		for k := range 6 + 8*h.size {
			o.lent[h.used()+k] = true
		}
	}
	first := o.out.at + ringSizes[c.Tx][1]
	for k := range c.Rx {
		o.add(&o.in, place{first + k*c.Buf, c.Buf, true})
	}
	o.goes = first + c.Rx*c.Buf
	for k := range o.free {
		o.free[k] = true
	}
	return o
}

func (o *model) put(at, n, x int) {
	for k := range n {
		o.bytes[at+k] = byte(x)
		x >>= 8
	}
}

func (o *model) get(at, n int) int {
	x := 0
	for k := n - 1; k >= 0; k-- {
		x = x<<8 + int(o.bytes[at+k])
	}
	return x
}

// add adds a chain by the least free descriptor: there is one.
func (o *model) add(h *half, p place) {
	d := 0
	for _, taken := h.waits[d]; taken; _, taken = h.waits[d] {
		d++
	}
	h.waits[d] = p
	flags := 0
	if p.in {
		flags = 2
		for k := range p.n {
			o.lent[p.at+k] = true
		}
	}
	o.put(h.at+16*d, 8, p.at)
	o.put(h.at+16*d+8, 4, p.n)
	o.put(h.at+16*d+12, 4, flags)
	o.put(h.avail()+4+2*(h.added%h.size), 2, d)
	h.added++
	o.put(h.avail()+2, 2, h.added)
}

func (o *model) poll(h *half) (p place, n int, is bool) {
	ready := (o.get(h.used()+2, 2) - h.polled%65536 + 65536) % 65536
	if h.broken || ready == 0 {
		return place{}, 0, false
	}
	entry := h.used() + 4 + 8*(h.polled%h.size)
	d, n := o.get(entry, 4), o.get(entry+4, 4)
	p, waits := h.waits[d]
	room := 0
	if p.in {
		room = p.n
	}
	if ready > len(h.waits) || !waits || n > room {
		h.broken = true
		return place{}, 0, false
	}
	h.polled++
	delete(h.waits, d)
	for k := range room {
		o.lent[p.at+k] = false
	}
	return p, n, true
}

func (o *model) recv() ([]string, api.Errno) {
	var l []string
	for {
		p, n, is := o.poll(&o.in)
		if !is {
			break
		}
		b := o.bytes[p.at : p.at+n]
		if n >= 26 && n <= 1526 && b[0] == 0 && b[1] == 0 && b[10] == 1 && b[11] == 0 {
			l = append(l, string(b[12:]))
		} else {
			o.lostIn++
		}
		o.add(&o.in, p)
	}
	if o.in.broken {
		return l, api.ErrRing
	}
	return l, api.OK
}

func (o *model) send(s string) api.Errno {
	if len(s) < 14 {
		return api.ErrArg
	}
	if len(s) > 1514 || len(s)+12 > o.buf {
		return api.ErrLong
	}
	for {
		p, _, is := o.poll(&o.out)
		if !is {
			break
		}
		o.free[(p.at-o.goes)/o.buf] = true
	}
	if o.out.broken {
		return api.ErrRing
	}
	k := slices.Index(o.free, true)
	if k < 0 {
		o.lostOut++
		return api.ErrFull
	}
	o.free[k] = false
	at := o.goes + k*o.buf
	copy(o.bytes[at:], zeros(12)+s)
	o.add(&o.out, place{at, 12 + len(s), false})
	return api.OK
}

func (o *model) device(at int, s string) api.Errno {
	if at+len(s) > len(o.bytes) {
		return api.ErrOut
	}
	for k := range len(s) {
		if !o.lent[at+k] {
			return api.ErrKept
		}
	}
	copy(o.bytes[at:], s)
	return api.OK
}

func (o *model) spans() []api.Span {
	var l []api.Span
	for k, x := range o.lent {
		if x && k > 0 && o.lent[k-1] {
			l[len(l)-1].Len++
		} else if x {
			l = append(l, span(uint32(k), 1))
		}
	}
	return l
}

// game is a card and its model, to which the same is done.
type game struct {
	t    *testing.T
	d    *rand.Rand
	m    *mem.Mem
	n    *vnet.Net
	o    *model
	evil int // one in so many is a mischief
	got  int // frames that came
	sent int
}

func newGame(t *testing.T, d *rand.Rand) *game {
	c := conf(1<<d.Intn(4), 1<<d.Intn(4), 64+d.Intn(30))
	if d.Intn(20) == 0 {
		c.Buf = 1500 + d.Intn(549)
	}
	from := 16 * d.Intn(4)
	bytes := from + vnet.Size(c) + d.Intn(20)
	m, _ := mem.New(bytes)
	n, e := vnet.New(m, uint32(from), c)
	if e != api.OK {
		t.Fatalf("New(%d, %v): %v", from, c, e)
	}
	return &game{t: t, d: d, m: m, n: n, o: newModel(c, from, bytes), evil: 4 + d.Intn(400)}
}

func (g *game) mischief() bool { return g.d.Intn(g.evil) == 0 }

// text is so many bytes, whatever they are.
func (g *game) text(n int) string {
	b := make([]byte, n)
	g.d.Read(b)
	return string(b)
}

// write is what a device does, wherever that is.
func (g *game) write(at int, s string) {
	e := g.m.Device(uint32(at), s)
	if want := g.o.device(at, s); e != want {
		g.t.Fatalf("Device(%d, %q): %v, want %v", at, s, e, want)
	}
}

// use is what a device does that mostly keeps to the rules: it uses a chain that waits, and has not been used yet.
func (g *game) use(h *half) {
	o := g.o
	index := o.get(h.used()+2, 2)
	var heads []int
	for d := range h.waits {
		heads = append(heads, d)
	}
	slices.Sort(heads)
	for k := h.polled; k%65536 != index; k++ { // those that the driver has not polled yet
		heads = slices.DeleteFunc(heads, func(d int) bool { return d == o.get(h.used()+4+8*(k%h.size), 4) })
	}
	if len(heads) == 0 {
		return
	}
	d, n := heads[g.d.Intn(len(heads))], 0
	if p := h.waits[d]; p.in {
		n = g.d.Intn(min(p.n, 1600) + 1)
		s := head
		if g.mischief() {
			b := []byte(s)
			b[g.d.Intn(12)] = byte(g.d.Intn(3))
			s = string(b)
		}
		g.write(p.at, (s + g.text(n))[:n])
	}
	if g.mischief() {
		d, n = d+g.d.Intn(5)-2, n+g.d.Intn(3)*o.buf
	}
	if g.mischief() {
		index += g.d.Intn(3)
	}
	g.write(h.used()+4+8*(index%h.size), low(uint64(d), 4)+low(uint64(n), 4))
	g.write(h.used()+2, low(uint64(index+1), 2))
}

func (g *game) recv() {
	l, e := g.n.Recv()
	if want, wantE := g.o.recv(); !slices.Equal(l, want) || e != wantE {
		g.t.Fatalf("Recv: %q %v, want %q %v", l, e, want, wantE)
	}
	g.got += len(l)
}

func (g *game) send() {
	n := 14 + g.d.Intn(min(g.o.buf-25, 1501))
	if g.d.Intn(10) == 0 {
		n = g.d.Intn(g.o.buf + 2)
	}
	s := g.text(n)
	e := g.n.Send(s)
	if want := g.o.send(s); e != want {
		g.t.Fatalf("Send of %d bytes: %v, want %v", n, e, want)
	}
	if e == api.OK {
		g.sent++
	}
}

func (g *game) step() {
	switch x := g.d.Intn(40); {
	case x < 12:
		g.use(&g.o.in)
	case x < 20:
		g.use(&g.o.out)
	case x < 28:
		g.recv()
	case x < 39:
		g.send()
	case g.mischief():
		g.write(g.d.Intn(len(g.o.bytes)), g.text(g.d.Intn(4)))
	}
	g.look()
}

// look fails unless all that can be seen is as the model has it.
func (g *game) look() {
	o := g.o
	if s, _ := g.m.Read(0, g.m.Size()); s != string(o.bytes) {
		for k := range s {
			if s[k] != o.bytes[k] {
				g.t.Fatalf("byte %d is %d, must be %d", k, s[k], o.bytes[k])
			}
		}
	}
	if l := g.m.Lent(); !slices.Equal(l, o.spans()) {
		g.t.Fatalf("lent is %v, must be %v", l, o.spans())
	}
	if in, out := g.n.Lost(); in != o.lostIn || out != o.lostOut {
		g.t.Fatalf("lost are %d %d, must be %d %d", in, out, o.lostIn, o.lostOut)
	}
	for _, x := range []struct {
		r *ring.Ring
		h *half
	}{{g.n.Rx(), &o.in}, {g.n.Tx(), &o.out}} {
		if x.r.Waits() != len(x.h.waits) || x.r.Broken() != x.h.broken {
			g.t.Fatalf("%d wait, broken %v, must be %d, %v", x.r.Waits(), x.r.Broken(), len(x.h.waits), x.h.broken)
		}
		for d, p := range x.h.waits {
			l, e := x.r.Chain(uint16(d))
			if e != api.OK || !slices.Equal(l, []api.Buf{{At: uint32(p.at), Len: uint32(p.n), In: p.in}}) {
				g.t.Fatalf("chain %d: %v %v, must be %v", d, l, e, p)
			}
		}
	}
	if len(o.in.waits) != o.in.size { // P3.6: no buffer gets lost
		g.t.Fatalf("%d of %d wait", len(o.in.waits), o.in.size)
	}
	free := 0
	for _, x := range o.free {
		if x {
			free++
		}
	}
	if free+len(o.out.waits) != o.out.size {
		g.t.Fatalf("%d are free, %d wait, of %d", free, len(o.out.waits), o.out.size)
	}
}

func TestModel(t *testing.T) { // P3.2 to P3.6: whatever comes, in any order
	d := rand.New(rand.NewSource(3))
	var got, sent, lostIn, lostOut, broken int
	for range 500 {
		g := newGame(t, d)
		g.look()
		for range 150 {
			g.step()
		}
		got, sent = got+g.got, sent+g.sent
		lostIn, lostOut = lostIn+g.o.lostIn, lostOut+g.o.lostOut
		if g.o.in.broken || g.o.out.broken {
			broken++
		}
	}
	if got < 2000 || sent < 5000 || lostIn < 1000 || lostOut < 1000 || broken < 100 || broken > 450 {
		t.Errorf("games that say little: %d came, %d went, %d %d were lost, %d of 500 broken", got, sent, lostIn, lostOut, broken)
	}
	t.Logf("%d came, %d went, %d %d were lost, %d of 500 broken", got, sent, lostIn, lostOut, broken)
}
