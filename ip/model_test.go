package ip_test

import (
	"fmt"
	"math/rand"
	"slices"
	"testing"

	"pharos/api"
	"pharos/ip"
)

// common is what pieces have in common that belong together.
type common struct {
	src, dst uint32
	proto    uint8
	id       uint16
}

// gathered is a set told byte by byte.
type gathered struct {
	until uint64
	bytes [8192]uint16 // by their places, each one more than it is; 0: none is there
	end   int          // that one without More told; 0: none did
	ttl   uint8        // of the piece at 0
	had   []api.Packet
}

// model is what is put together, by the chapter's words.
type model struct {
	most int
	life uint64
	sets map[common]*gathered
}

func (o *model) take(p api.Packet, now uint64) (api.Packet, bool, api.Errno) {
	if now >= 1<<62 {
		return api.Packet{}, false, api.ErrArg
	}
	for c, s := range o.sets {
		if s.until <= now {
			delete(o.sets, c)
		}
	}
	if p.Off == 0 && !p.More {
		return p, true, api.OK
	}
	c := common{p.Src, p.Dst, p.Proto, p.ID}
	from := int(p.Off) * 8
	end := from + len(p.Data)
	switch {
	case p.Data == "", p.More && len(p.Data)%8 != 0:
		delete(o.sets, c)
		return api.Packet{}, false, api.ErrForm
	case end > 8192:
		delete(o.sets, c)
		return api.Packet{}, false, api.ErrLong
	}
	s := o.sets[c]
	if s == nil {
		if len(o.sets) == o.most {
			return api.Packet{}, false, api.ErrFull
		}
		s = &gathered{until: now + o.life}
		o.sets[c] = s
	}
	for _, q := range s.had {
		if q.Off == p.Off && q.Data == p.Data && q.More == p.More {
			return api.Packet{}, false, api.OK
		}
	}
	if s.clash(from, end, p.More) {
		delete(o.sets, c)
		return api.Packet{}, false, api.ErrOver
	}
	data, whole := s.put(p, from, end)
	if !whole {
		return api.Packet{}, false, api.OK
	}
	delete(o.sets, c)
	return api.Packet{Src: c.src, Dst: c.dst, Proto: c.proto, ID: c.id, TTL: s.ttl, Data: data}, true, api.OK
}

// clash tells whether a piece may not be beside what is there.
func (s *gathered) clash(from, end int, more bool) bool {
	for k := from; k < end; k++ {
		if s.bytes[k] > 0 {
			return true
		}
	}
	if s.end > 0 && (from >= s.end || !more) {
		return true
	}
	return !more && slices.ContainsFunc(s.bytes[end:], func(b uint16) bool { return b > 0 })
}

// put lets a piece be there: all bytes, if none is wanting.
func (s *gathered) put(p api.Packet, from, end int) (string, bool) {
	for k := range len(p.Data) {
		s.bytes[from+k] = uint16(p.Data[k]) + 1
	}
	s.had = append(s.had, p)
	if !p.More {
		s.end = end
	}
	if from == 0 {
		s.ttl = p.TTL
	}
	if s.end == 0 {
		return "", false
	}
	var all []byte
	for k := range s.end {
		if s.bytes[k] == 0 {
			return "", false
		}
		all = append(all, byte(s.bytes[k]-1))
	}
	return string(all), true
}

// tally is how often something was seen, in all games.
type tally struct{ whole, kept, plain, args, form, long, full, over, gone int }

// game is what is put together and its model, to which the same is done.
type game struct {
	t     *testing.T
	d     *rand.Rand
	x     *ip.Pieces
	o     *model
	ids   int
	base  int // where most pieces stand, in eights
	clock uint64
	count *tally
	told  []string
}

func newGame(t *testing.T, d *rand.Rand, count *tally) *game {
	most, life := 1+d.Intn(4), uint64(5+d.Intn(60))
	if d.Intn(5) == 0 {
		most, life = 1+d.Intn(32), 1<<32-uint64(d.Intn(5))
	}
	x, e := ip.New(most, life)
	if e != api.OK {
		t.Fatal(e)
	}
	g := &game{t: t, d: d, x: x, o: &model{most, life, map[common]*gathered{}}, ids: 1 + d.Intn(6), count: count}
	if d.Intn(8) == 0 {
		g.clock = farthest - uint64(d.Intn(200))
	}
	if d.Intn(6) == 0 {
		g.base = 1019 // up to the greatest
	}
	return g
}

// now is a time: mostly one that goes on, now and then an earlier one, one far on, or one that may not be.
func (g *game) now() uint64 {
	switch g.d.Intn(40) {
	case 0:
		return g.clock - min(g.clock, uint64(g.d.Intn(40)))
	case 1:
		return noTimes[g.d.Intn(len(noTimes))]
	case 2:
		return g.clock + g.o.life
	default:
		g.clock += uint64(g.d.Intn(3))
		return g.clock
	}
}

// place is where a piece stands, in eights, and how many bytes it has: mostly one of three that fit.
func (g *game) place() (int, int) {
	if k := g.d.Intn(4); k < 3 {
		return []int{0, 1, 3}[k], []int{8, 16, 16}[k]
	}
	return g.d.Intn(5), 8 * (1 + g.d.Intn(2))
}

// piece is one of a packet of up to 5 eights, mostly; sometimes its bytes are others.
func (g *game) piece() api.Packet {
	p := api.Packet{
		Src: there + uint32(g.d.Intn(8)/7), Dst: here, Proto: 6, TTL: uint8(g.d.Intn(256)), ID: uint16(g.d.Intn(g.ids)),
		Stay: g.d.Intn(2) == 0,
	}
	from, size := g.place()
	p.More = from+size/8 < 5
	if !p.More {
		size = 8*(5-from) - 3*(g.d.Intn(8)/7)
	}
	if g.base > 0 && g.d.Intn(5) == 0 { // what stands ahead of most
		p.Data, p.More = places(0, 8*g.base), true
		return p
	}
	if g.d.Intn(30) == 0 {
		p.More = !p.More
	}
	if g.d.Intn(30) == 0 {
		size += g.d.Intn(9) - 4
	}
	if g.d.Intn(60) == 0 {
		size = 0
	}
	from += g.base
	p.Off, p.Data = uint16(from), places(8*from, 8*from+max(size, 0))
	if g.d.Intn(40) == 0 {
		p.Off = uint16(g.d.Intn(65536))
	}
	if g.d.Intn(60) == 0 {
		p.Data = drawn(g.d, len(p.Data))
	}
	return p
}

func (g *game) tell(is bool, e api.Errno) {
	c := g.count
	n, is2 := map[api.Errno]*int{
		api.OK: &c.kept, api.ErrArg: &c.args, api.ErrForm: &c.form, api.ErrLong: &c.long, api.ErrFull: &c.full, api.ErrOver: &c.over,
	}[e]
	if is {
		n = &c.whole
	}
	if !is2 {
		g.t.Fatalf("%v: there is no such error", e)
	}
	*n++
}

func (g *game) step() {
	p, now := g.piece(), g.now()
	if g.d.Intn(30) == 0 {
		p.Off, p.More = 0, false
		g.count.plain++
	}
	before := len(g.o.sets)
	want, wantIs, wantE := g.o.take(p, now)
	q, is, e := g.x.Take(p, now)
	if q != want || is != wantIs || e != wantE {
		g.t.Fatalf("Take(%s, %d): %s %v %v, want %s %v %v", brief(p), now, brief(q), is, e, brief(want), wantIs, wantE)
	}
	g.tell(is && (p.More || p.Off != 0), e)
	if n := g.x.Waits(); n != len(g.o.sets) || n > g.o.most { // P18.6
		g.t.Fatalf("Waits: %d, want %d, at most %d", n, len(g.o.sets), g.o.most)
	}
	g.count.gone += max(before-1-len(g.o.sets), 0)
	g.told = append(g.told, fmt.Sprint(q, is, e, g.x.Waits()))
}

// P18.3, P18.4, P18.6: whatever pieces come, at whatever times, all is as the model has it.
func TestAsTheModel(t *testing.T) {
	d := rand.New(rand.NewSource(18))
	count := &tally{}
	for range 600 {
		g := newGame(t, d, count)
		for range 250 {
			g.step()
		}
	}
	if c := *count; c.whole < 1000 || c.kept < 10000 || c.plain < 1000 || c.args < 1000 || c.form < 1000 || c.long < 1000 || c.full < 10000 || c.over < 10000 || c.gone < 500 {
		t.Errorf("the games say too little: %+v", c)
	}
}

// R6: what is done again has the same answers.
func TestAgain(t *testing.T) {
	told := func() []string {
		g := newGame(t, rand.New(rand.NewSource(11)), &tally{})
		for range 400 {
			g.step()
		}
		return g.told
	}
	if !slices.Equal(told(), told()) {
		t.Error("another time, other answers")
	}
}

// cut is pieces that cut a packet, in drawn places and a drawn order.
func cut(d *rand.Rand, p api.Packet) []api.Packet {
	var l []api.Packet
	most := 1 + d.Intn(1+len(p.Data)/8)
	for at := 0; at < len(p.Data); {
		end := min(at+8*(1+d.Intn(most)), len(p.Data))
		if at == 0 && end == len(p.Data) {
			end = 8 // it is cut
		}
		q := p
		q.Off, q.More, q.Data = uint16(at/8), end < len(p.Data), p.Data[at:end]
		if at > 0 {
			q.TTL = uint8(d.Intn(256))
		}
		l = append(l, q)
		at = end
	}
	d.Shuffle(len(l), func(i, k int) { l[i], l[k] = l[k], l[i] })
	return l
}

// P18.6: pieces that cut a packet, in any order, some of them twice, make it, once; those of others, that come in between, are not mixed in.
func TestCut(t *testing.T) {
	d := rand.New(rand.NewSource(4))
	for round := range 300 {
		x := fresh(t, 32, 1<<20)
		whole := make([]api.Packet, 1+d.Intn(32))
		rows := make([][]api.Packet, len(whole))
		left := 0
		for k := range whole {
			size := 9 + d.Intn(200)
			if round%10 == 0 {
				size = 8192 - d.Intn(2)*d.Intn(8000)
			}
			whole[k] = api.Packet{Src: there + uint32(k%2), Dst: here, Proto: 6, TTL: uint8(k), ID: uint16(k / 2), Data: drawn(d, size)}
			rows[k] = cut(d, whole[k])
			left += len(rows[k])
		}
		for now := uint64(0); left > 0; now++ {
			k := d.Intn(len(rows))
			if len(rows[k]) == 0 {
				continue
			}
			p := rows[k][0]
			rows[k] = rows[k][1:]
			left--
			if len(rows[k]) == 0 {
				x.makes(p, now, whole[k])
				continue
			}
			x.keeps(p, now)
			if d.Intn(4) == 0 {
				x.keeps(p, now)
			}
		}
		x.waits(0)
	}
}

// P18.6: of four pieces every order, every bound between them, and any of them that is wanting.
func TestOrders(t *testing.T) {
	var orders [][]int
	for n := range 256 {
		o := []int{n % 4, n / 4 % 4, n / 16 % 4, n / 64}
		if s := slices.Sorted(slices.Values(o)); slices.Equal(s, []int{0, 1, 2, 3}) {
			orders = append(orders, o)
		}
	}
	if len(orders) != 24 {
		t.Fatal(len(orders))
	}
	const size = 61
	for bounds := range 512 {
		at := []int{0, 8 * (1 + bounds%8), 8 * (1 + bounds/8%8), 8 * (1 + bounds/64), size}
		if !slices.IsSorted(at) || len(slices.Compact(slices.Clone(at))) < 5 {
			continue
		}
		for _, o := range orders {
			x := fresh(t, 1, 10)
			for k, n := range o {
				p := part(at[n], at[n+1], n < 3)
				if k < 3 {
					x.keeps(p, 1)
					x.waits(1)
				} else {
					x.makes(p, 1, made(p, 9, places(0, size)))
					x.waits(0)
				}
			}
		}
	}
}
