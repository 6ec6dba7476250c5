package ring_test

import (
	"math"
	"slices"
	"strings"
	"testing"

	"pharos/api"
	"pharos/mem"
	"pharos/ring"
)

// memory is a new memory of so many bytes, each of which is 'm'.
func memory(t *testing.T, size int) *mem.Mem {
	t.Helper()
	m, e := mem.New(size)
	if e != api.OK || m.Write(0, strings.Repeat("m", size)) != api.OK {
		t.Fatalf("mem.New(%d): %v", size, e)
	}
	return m
}

// fresh is a new ring.
func fresh(t *testing.T, m *mem.Mem, at uint32, size int) *ring.Ring {
	t.Helper()
	r, e := ring.New(m, at, size)
	if e != api.OK || r == nil {
		t.Fatalf("New(%d, %d): %v", at, size, e)
	}
	return r
}

func in(at, n uint32) api.Buf  { return api.Buf{At: at, Len: n, In: true} }
func out(at, n uint32) api.Buf { return api.Buf{At: at, Len: n} }

func span(at, n uint32) api.Span { return api.Span{At: at, Len: n} }

// add adds a chain, and fails unless that is its head.
func add(t *testing.T, r *ring.Ring, head uint16, l ...api.Buf) {
	t.Helper()
	if h, e := r.Add(l); h != head || e != api.OK {
		t.Fatalf("Add(%v): %d %v, want %d", l, h, e, head)
	}
}

// low is the n lowest bytes of a number, the lowest first.
func low(x uint64, n int) string {
	var b []byte
	for range n {
		b = append(b, byte(x))
		x >>= 8
	}
	return string(b)
}

// device writes for the device, and fails if it can't.
func device(t *testing.T, m *mem.Mem, at uint32, s string) {
	t.Helper()
	if e := m.Device(at, s); e != api.OK {
		t.Fatalf("Device(%d, %q): %v", at, s, e)
	}
}

// entry writes an entry of the used part.
func entry(t *testing.T, m *mem.Mem, r *ring.Ring, k int, head, n uint32) {
	t.Helper()
	device(t, m, r.Used()+4+8*uint32(k), low(uint64(head), 4)+low(uint64(n), 4))
}

// index writes the index of the used part.
func index(t *testing.T, m *mem.Mem, r *ring.Ring, x uint16) {
	t.Helper()
	device(t, m, r.Used()+2, low(uint64(x), 2))
}

// polled fails unless the next chain that was used is that.
func polled(t *testing.T, r *ring.Ring, head uint16, n uint32) {
	t.Helper()
	if d, is, e := r.Poll(); d != (api.Done{Head: head, Len: n}) || !is || e != api.OK {
		t.Fatalf("Poll: %v %v %v, want %d %d", d, is, e, head, n)
	}
}

// nothing fails unless no chain was used.
func nothing(t *testing.T, r *ring.Ring) {
	t.Helper()
	if d, is, e := r.Poll(); d != (api.Done{}) || is || e != api.OK {
		t.Fatalf("Poll: %v %v %v, want none", d, is, e)
	}
}

// breaks fails unless polling breaks the ring, for ever, and leaves all else as it is.
func breaks(t *testing.T, m *mem.Mem, r *ring.Ring) {
	t.Helper()
	if r.Broken() {
		t.Fatal("broken already")
	}
	before := all(t, m, r)
	for range 3 {
		if d, is, e := r.Poll(); d != (api.Done{}) || is || e != api.ErrRing {
			t.Fatalf("Poll: %v %v %v, want ErrRing", d, is, e)
		}
		if !r.Broken() {
			t.Fatal("not broken")
		}
		for _, l := range [][]api.Buf{nil, {out(0, 0)}, {out(0, 1)}, {out(math.MaxUint32, 1)}} {
			if h, e := r.Add(l); h != 0 || e != api.ErrRing { // ahead of all else
				t.Fatalf("Add(%v): %d %v, want ErrRing", l, h, e)
			}
		}
		if now := all(t, m, r); !now.same(before) {
			t.Fatalf("it stands so: %v, stood so: %v", now, before)
		}
	}
}

// state is all that can be seen of a ring and its memory, but whether it is broken.
type state struct {
	bytes  string
	lent   []api.Span
	waits  int
	left   int
	chains map[uint16][]api.Buf
}

func (s state) same(o state) bool {
	if len(s.chains) != len(o.chains) {
		return false
	}
	for h, l := range s.chains {
		if !slices.Equal(l, o.chains[h]) {
			return false
		}
	}
	return s.bytes == o.bytes && slices.Equal(s.lent, o.lent) && s.waits == o.waits && s.left == o.left
}

func all(t *testing.T, m *mem.Mem, r *ring.Ring) state {
	t.Helper()
	bytes, _ := m.Read(0, m.Size())
	s := state{bytes: bytes, lent: m.Lent(), waits: r.Waits(), left: r.Left(), chains: map[uint16][]api.Buf{}}
	for h := range 2 * api.MaxRing {
		l, e := r.Chain(uint16(h))
		if e == api.OK {
			s.chains[uint16(h)] = l
		} else if l != nil || e != api.ErrNone {
			t.Fatalf("Chain(%d): %v %v", h, l, e)
		}
	}
	return s
}

func TestSize(t *testing.T) { // P2.1
	sizes := map[int]int{1: 38, 2: 66, 4: 118, 8: 222, 16: 430, 32: 846, 64: 1678, 128: 3342, 256: 6670}
	for n := -2; n <= 4*api.MaxRing; n++ {
		if got := ring.Size(n); got != sizes[n] {
			t.Errorf("Size(%d): %d, want %d", n, got, sizes[n])
		}
	}
	for _, n := range []int{math.MinInt, math.MaxInt, 1 << 32, 1 << 62, -1 << 32} {
		if got := ring.Size(n); got != 0 {
			t.Errorf("Size(%d): %d", n, got)
		}
	}
}

func TestNew(t *testing.T) { // P2.1, P2.4
	for _, c := range []struct {
		at          uint32
		size        int
		avail, used uint32
	}{
		{0, 1, 16, 24}, {0, 2, 32, 44}, {16, 2, 48, 60}, {48, 4, 112, 128}, {0, 8, 128, 152},
		{1024, 64, 2048, 2184}, {32, api.MaxRing, 4128, 4648},
	} {
		n := ring.Size(c.size)
		size := int(c.at) + n + 3
		m := memory(t, size)
		r := fresh(t, m, c.at, c.size)
		if r.Avail() != c.avail || r.Used() != c.used {
			t.Errorf("parts of %d at %d: %d %d, want %d %d", c.size, c.at, r.Avail(), r.Used(), c.avail, c.used)
		}
		want := strings.Repeat("m", int(c.at)) + strings.Repeat("\x00", n) + "mmm"
		if s, _ := m.Read(0, size); s != want {
			t.Errorf("bytes of %d at %d: %q", c.size, c.at, s)
		}
		if l := m.Lent(); !slices.Equal(l, []api.Span{span(c.used, uint32(6+8*c.size))}) {
			t.Errorf("lent of %d at %d: %v", c.size, c.at, l)
		}
		if r.Waits() != 0 || r.Left() != c.size || r.Broken() {
			t.Errorf("%d at %d: waits %d, left %d, broken %v", c.size, c.at, r.Waits(), r.Left(), r.Broken())
		}
		nothing(t, r)
	}
}

func TestNewErrors(t *testing.T) { // P2.1
	m := memory(t, 96)
	if e := m.Lend(span(90, 2)); e != api.OK {
		t.Fatal(e)
	}
	bytes, _ := m.Read(0, 96)
	for _, c := range []struct {
		at   uint32
		size int
		e    api.Errno
	}{
		{0, 0, api.ErrArg}, {0, -1, api.ErrArg}, {0, 3, api.ErrArg}, {0, 2 * api.MaxRing, api.ErrArg},
		{0, math.MaxInt, api.ErrArg}, {0, math.MinInt, api.ErrArg},
		{1, 1, api.ErrArg}, {8, 1, api.ErrArg}, {15, 1, api.ErrArg}, {17, 1, api.ErrArg}, {20, 1, api.ErrArg},
		{math.MaxUint32, 2, api.ErrArg}, // ahead of ErrOut
		{8, 256, api.ErrArg},            // ahead of ErrOut
		{1024, 3, api.ErrArg},
		{56, 1, api.ErrArg}, // ahead of ErrLent
		{64, 1, api.ErrOut}, // ahead of ErrLent
		{0, 4, api.ErrOut}, {32, 2, api.ErrOut}, {96, 1, api.ErrOut}, {0, 256, api.ErrOut},
		{1 << 31, 1, api.ErrOut}, {math.MaxUint32 - 15, 1, api.ErrOut}, {math.MaxUint32 - 15, 256, api.ErrOut},
	} {
		if r, e := ring.New(m, c.at, c.size); r != nil || e != c.e {
			t.Errorf("New(%d, %d): %v %v, want %v", c.at, c.size, r, e, c.e)
		}
	}
	if s, _ := m.Read(0, 96); s != bytes || !slices.Equal(m.Lent(), []api.Span{span(90, 2)}) {
		t.Error("something changed")
	}
	for _, none := range []*mem.Mem{nil, {}, new(mem.Mem)} {
		for _, c := range []struct {
			at   uint32
			size int
		}{{0, 1}, {0, 0}, {1, 1}, {math.MaxUint32, 3}} {
			if r, e := ring.New(none, c.at, c.size); r != nil || e != api.ErrNil {
				t.Errorf("New(none, %d, %d): %v %v", c.at, c.size, r, e)
			}
		}
	}
}

func TestNewEndsAtTheEnd(t *testing.T) { // P2.1
	for _, size := range []int{1, 2, 4, api.MaxRing} {
		n := ring.Size(size)
		if r, e := ring.New(memory(t, 32+n-1), 32, size); r != nil || e != api.ErrOut {
			t.Errorf("New of %d, one byte short: %v %v", size, r, e)
		}
		fresh(t, memory(t, 32+n), 32, size)
	}
}

func TestNewOverLent(t *testing.T) { // P2.1
	n := uint32(ring.Size(2))
	for at := uint32(0); at < 16+n+1; at++ {
		m := memory(t, int(16+n+1))
		if e := m.Lend(span(at, 1)); e != api.OK {
			t.Fatal(e)
		}
		bytes, _ := m.Read(0, m.Size())
		r, e := ring.New(m, 16, 2)
		if at < 16 || at >= 16+n { // beside it
			if r == nil || e != api.OK {
				t.Errorf("with %d lent: %v", at, e)
			}
			continue
		}
		if r != nil || e != api.ErrLent {
			t.Errorf("with %d lent: %v %v", at, r, e)
		}
		if s, _ := m.Read(0, m.Size()); s != bytes || !slices.Equal(m.Lent(), []api.Span{span(at, 1)}) {
			t.Errorf("with %d lent: something changed", at)
		}
	}
	m := memory(t, 200)
	fresh(t, m, 0, 2)
	if r, e := ring.New(m, 0, 2); r != nil || e != api.ErrLent { // over another ring's used part
		t.Errorf("New over a ring: %v %v", r, e)
	}
	fresh(t, m, 80, 2)
}

func TestRingsAreApart(t *testing.T) { // P2.1, R6
	m := memory(t, 400)
	a, b := fresh(t, m, 0, 2), fresh(t, m, 80, 2)
	add(t, a, 0, out(200, 2), in(210, 2))
	if b.Waits() != 0 || b.Left() != 2 {
		t.Error("a chain of one ring is the other's too")
	}
	add(t, b, 0, out(220, 2))
	entry(t, m, a, 0, 1, 0)
	index(t, m, a, 1)
	if _, _, e := a.Poll(); e != api.ErrRing || !a.Broken() || b.Broken() {
		t.Error("both are broken, or none")
	}
	add(t, b, 1, out(220, 2))
}

// none is a ring that is not there, or that New did not make.
func none() []*ring.Ring { return []*ring.Ring{nil, {}, new(ring.Ring)} }

func TestNoRing(t *testing.T) { // R3
	for _, r := range none() {
		for _, l := range [][]api.Buf{nil, {}, {out(0, 1)}, {out(0, 0)}, {in(math.MaxUint32, math.MaxUint32)}} {
			if h, e := r.Add(l); h != 0 || e != api.ErrNil {
				t.Errorf("Add: %d %v", h, e)
			}
		}
		if d, is, e := r.Poll(); d != (api.Done{}) || is || e != api.ErrNil {
			t.Errorf("Poll: %v %v %v", d, is, e)
		}
		if l, e := r.Chain(0); l != nil || e != api.ErrNil {
			t.Errorf("Chain: %v %v", l, e)
		}
		if r.Waits() != 0 || r.Left() != 0 || r.Broken() || r.Avail() != 0 || r.Used() != 0 {
			t.Error("there is something of no ring")
		}
	}
}

func TestChain(t *testing.T) { // P2.4, R5
	m := memory(t, 600)
	r := fresh(t, m, 16, 8)
	one := []api.Buf{out(300, 1), in(310, 2), in(320, 3)}
	two := []api.Buf{in(330, 4)}
	add(t, r, 0, one...)
	add(t, r, 3, two...)
	if r.Waits() != 2 || r.Left() != 4 {
		t.Errorf("waits %d, left %d", r.Waits(), r.Left())
	}
	for h := range math.MaxUint16 + 1 {
		l, e := r.Chain(uint16(h))
		switch {
		case h == 0 && (!slices.Equal(l, one) || e != api.OK), h == 3 && (!slices.Equal(l, two) || e != api.OK):
			t.Errorf("Chain(%d): %v %v", h, l, e)
		case h != 0 && h != 3 && (l != nil || e != api.ErrNone):
			t.Errorf("Chain(%d): %v %v", h, l, e)
		}
	}
	entry(t, m, r, 0, 0, 5)
	index(t, m, r, 1)
	if l, e := r.Chain(0); !slices.Equal(l, one) || e != api.OK {
		t.Error("a chain waits until it is polled", l, e)
	}
	polled(t, r, 0, 5)
	if l, e := r.Chain(0); l != nil || e != api.ErrNone {
		t.Error("Chain of one that was polled", l, e)
	}
	if r.Waits() != 1 || r.Left() != 7 {
		t.Errorf("waits %d, left %d", r.Waits(), r.Left())
	}
}

func TestListsAreApart(t *testing.T) { // R5
	m := memory(t, 600)
	r := fresh(t, m, 16, 8)
	l := []api.Buf{out(300, 1), in(310, 2)}
	add(t, r, 0, l...)
	given := slices.Clone(l)
	if h, e := r.Add(given[:1]); h != 2 || e != api.OK {
		t.Fatal(h, e)
	}
	given[0] = in(500, 50)
	first, _ := r.Chain(2)
	if !slices.Equal(first, l[:1]) {
		t.Error("what was handed in is kept", first)
	}
	first[0] = in(500, 50)
	if again, _ := r.Chain(2); !slices.Equal(again, l[:1]) {
		t.Error("what was answered is kept", again)
	}
	keep := []api.Buf{out(300, 1), in(320, 2), in(330, 2)}
	if _, e := r.Add(keep); e != api.OK || !slices.Equal(keep, []api.Buf{out(300, 1), in(320, 2), in(330, 2)}) {
		t.Error("what is handed in is changed", keep, e)
	}
}

func TestBrokenTells(t *testing.T) { // P2.4: a broken ring still tells what it has
	m := memory(t, 300)
	r := fresh(t, m, 0, 2)
	add(t, r, 0, in(200, 4))
	index(t, m, r, 2)
	breaks(t, m, r)
	if l, e := r.Chain(0); !slices.Equal(l, []api.Buf{in(200, 4)}) || e != api.OK {
		t.Error(l, e)
	}
	if r.Waits() != 1 || r.Left() != 1 || r.Avail() != 32 || r.Used() != 44 {
		t.Error(r.Waits(), r.Left(), r.Avail(), r.Used())
	}
	index(t, m, r, 0) // it stays so
	if _, is, e := r.Poll(); is || e != api.ErrRing || !r.Broken() {
		t.Error("a broken ring is whole again")
	}
}
