package mem_test

import (
	"math"
	"math/rand"
	"slices"
	"strings"
	"testing"

	"pharos/api"
	"pharos/mem"
)

// model is a memory as the document's words have it, byte by byte.
type model struct {
	bytes []byte
	lent  []bool
}

func (o *model) out(at uint32, n int) bool { return uint64(at)+uint64(n) > uint64(len(o.bytes)) }

// any tells whether one of these bytes is so.
func (o *model) any(at uint32, n int, lent bool) bool {
	return slices.Contains(o.lent[at:int(at)+n], lent)
}

func (o *model) write(at uint32, s string, device bool) api.Errno {
	switch {
	case o.out(at, len(s)):
		return api.ErrOut
	case o.any(at, len(s), !device) && device:
		return api.ErrKept
	case o.any(at, len(s), !device):
		return api.ErrLent
	}
	copy(o.bytes[at:], s)
	return api.OK
}

func (o *model) mark(s api.Span, lend bool) api.Errno {
	switch {
	case s.Len == 0 || o.out(s.At, int(s.Len)):
		return api.ErrOut
	case o.any(s.At, int(s.Len), lend) && lend:
		return api.ErrLent
	case o.any(s.At, int(s.Len), lend):
		return api.ErrKept
	}
	for i := range s.Len {
		o.lent[s.At+i] = lend
	}
	return api.OK
}

func (o *model) spans() []api.Span {
	var l []api.Span
	for i, lent := range o.lent {
		switch {
		case lent && i > 0 && o.lent[i-1]:
			l[len(l)-1].Len++
		case lent:
			l = append(l, at(uint32(i), 1))
		}
	}
	return l
}

// place is one in memory mostly, else around its end, or far away.
func place(r *rand.Rand, size int) uint32 {
	switch r.Intn(20) {
	case 0:
		return math.MaxUint32 - uint32(r.Intn(4))
	case 1:
		return uint32(size - 1 + r.Intn(3))
	}
	return uint32(r.Intn(size))
}

// TestAgainstModel plays steps of all kinds, and holds each answer, and all bytes behind it, against the model's. (P1.2 to P1.4, P1.6)
func TestAgainstModel(t *testing.T) {
	r := rand.New(rand.NewSource(1))
	for range 300 {
		size := 1 + r.Intn(24)
		m, o := fresh(t, size), &model{make([]byte, size), make([]bool, size)}
		for range 200 {
			step(t, r, m, o)
			if t.Failed() {
				return
			}
			stands(t, m, string(o.bytes), o.spans()...)
		}
	}
}

func step(t *testing.T, r *rand.Rand, m *mem.Mem, o *model) {
	a, x := place(r, m.Size()), r.Uint64()
	s := at(a, uint32(r.Intn(6)))
	text := strings.Repeat(string(rune('a'+r.Intn(26))), r.Intn(5))
	switch r.Intn(9) {
	case 0:
		want(t, "Write", m.Write(a, text), o.write(a, text, false))
	case 1:
		want(t, "Device", m.Device(a, text), o.write(a, text, true))
	case 2, 3:
		want(t, "Lend", m.Lend(s), o.mark(s, true))
	case 4, 5:
		want(t, "Back", m.Back(s), o.mark(s, false))
	case 6:
		want(t, "Put16", m.Put16(a, uint16(x)), o.write(a, low(x, 2), false))
	case 7:
		want(t, "Put32", m.Put32(a, uint32(x)), o.write(a, low(x, 4), false))
	case 8:
		want(t, "Put64", m.Put64(a, x), o.write(a, low(x, 8), false))
	}
	reads(t, m, a)
}

// low is the lowest n bytes of a number, the lowest first.
func low(x uint64, n int) string {
	var b strings.Builder
	for i := range n {
		b.WriteByte(byte(x >> (8 * i)))
	}
	return b.String()
}

// reads holds the numbers at a place against the bytes there.
func reads(t *testing.T, m *mem.Mem, a uint32) {
	t.Helper()
	x, e := m.U16(a)
	y, f := m.U32(a)
	z, g := m.U64(a)
	for _, c := range []struct {
		n int
		x uint64
		e api.Errno
	}{{2, uint64(x), e}, {4, uint64(y), f}, {8, z, g}} {
		s, e := m.Read(a, c.n)
		if c.e != e || e == api.OK && low(c.x, c.n) != s || e != api.OK && c.x != 0 {
			t.Errorf("number of %d bytes at %d: %x %v, bytes %q %v", c.n, a, c.x, c.e, s, e)
		}
	}
}

// TestPoolAgainstModel: a buffer is got at most once till it is put; what is given is lent, and nothing else. (P1.5, P1.6)
func TestPoolAgainstModel(t *testing.T) {
	r := rand.New(rand.NewSource(2))
	for range 200 {
		size, count, first := 1+r.Intn(4), 1+r.Intn(6), r.Intn(5)
		m := fresh(t, first+size*count+r.Intn(4))
		p := pool(t, m, uint32(first), size, count)
		who := make([]uint8, count)
		for range 100 {
			poolStep(t, r, p, uint32(first), uint32(size), who)
			if t.Failed() {
				return
			}
			o := &model{make([]byte, m.Size()), make([]bool, m.Size())}
			for i, w := range who {
				whose(t, p, uint32(first+i*size), w)
				if w == api.Device {
					o.mark(at(uint32(first+i*size), uint32(size)), true)
				}
			}
			stands(t, m, string(o.bytes), o.spans()...)
		}
	}
}

func poolStep(t *testing.T, r *rand.Rand, p *mem.Pool, first, size uint32, who []uint8) {
	i := r.Intn(len(who))
	a := first + uint32(i)*size
	move := func(what string, call func(uint32) api.Errno, from, to uint8) {
		if who[i] != from {
			want(t, what, call(a), api.ErrState)
			return
		}
		want(t, what, call(a), api.OK)
		who[i] = to
	}
	switch r.Intn(5) {
	case 0, 1:
		if i = slices.Index(who, api.Free); i < 0 {
			_, e := p.Get()
			want(t, "Get", e, api.ErrFull)
			return
		}
		gets(t, p, first+uint32(i)*size)
		who[i] = api.Driver
	case 2:
		move("Put", p.Put, api.Driver, api.Free)
	case 3:
		move("Give", p.Give, api.Driver, api.Device)
	case 4:
		move("Take", p.Take, api.Device, api.Driver)
	}
	left := 0
	for _, w := range who {
		if w == api.Free {
			left++
		}
	}
	if p.Left() != left {
		t.Errorf("%d are left, want %d", p.Left(), left)
	}
}
