package ring_test

import (
	"math"
	"slices"
	"strings"
	"testing"

	"pharos/api"
)

// desc is a descriptor as it stands in the table.
func desc(at uint64, n uint32, flags, next uint16) string {
	return low(at, 8) + low(uint64(n), 4) + low(uint64(flags), 2) + low(uint64(next), 2)
}

func TestAddWrites(t *testing.T) { // P2.2
	m := memory(t, 400)
	r := fresh(t, m, 16, 4) // table 16, available 80, used 96, end 134
	add(t, r, 0, out(0x101, 2), in(0x110, 0x21), in(0x140, 1))
	add(t, r, 3, out(0x102, 5))
	want := strings.Repeat("m", 16) +
		desc(0x101, 2, 1, 1) + desc(0x110, 0x21, 3, 2) + desc(0x140, 1, 2, 0) + desc(0x102, 5, 0, 0) +
		"\x00\x00" + "\x02\x00" + "\x00\x00" + "\x03\x00" + "\x00\x00\x00\x00" + "\x00\x00" + // with 2 bytes at its end
		"\x00\x00" + // up to the next multiple of 4
		strings.Repeat("\x00", 38) + strings.Repeat("m", 400-134)
	if s, _ := m.Read(0, 400); s != want {
		t.Errorf("bytes are\n%q, want\n%q", s, want)
	}
	if l := m.Lent(); !slices.Equal(l, []api.Span{span(96, 38), span(0x110, 0x21), span(0x140, 1)}) {
		t.Error("lent is", l)
	}
	if r.Waits() != 2 || r.Left() != 0 {
		t.Error(r.Waits(), r.Left())
	}
}

func TestAddLengths(t *testing.T) { // P2.2: from 1 to MaxChain buffers, all ways of parting them
	for n := 0; n <= api.MaxChain+1; n++ {
		for outs := 0; outs <= n; outs++ {
			m := memory(t, 600)
			r := fresh(t, m, 0, 16)
			l := make([]api.Buf, n)
			table := ""
			for i := range l {
				l[i] = api.Buf{At: uint32(500 + 2*i), Len: 1, In: i >= outs}
				flags, next := uint16(0), uint16(0)
				if i >= outs {
					flags |= 2
				}
				if i+1 < n {
					flags, next = flags|1, uint16(i+1)
				}
				table += desc(uint64(500+2*i), 1, flags, next)
			}
			before := all(t, m, r)
			h, e := r.Add(l)
			if n == 0 || n > api.MaxChain {
				if h != 0 || e != api.ErrArg || !all(t, m, r).same(before) {
					t.Errorf("Add of %d: %d %v", n, h, e)
				}
				continue
			}
			if h != 0 || e != api.OK || r.Waits() != 1 || r.Left() != 16-n || len(m.Lent()) != 1+n-outs {
				t.Errorf("Add of %d, %d out: %d %v", n, outs, h, e)
			}
			if s, _ := m.Read(0, len(table)); s != table {
				t.Errorf("table of %d, %d out: %q, want %q", n, outs, s, table)
			}
		}
	}
}

func TestAddTakesTheLeast(t *testing.T) { // P2.2
	m := memory(t, 600)
	r := fresh(t, m, 0, 8)
	add(t, r, 0, out(500, 1))
	add(t, r, 1, out(501, 1), out(502, 1))
	add(t, r, 3, out(503, 1))
	add(t, r, 4, out(504, 1), out(505, 1))
	add(t, r, 6, out(506, 1))
	entry(t, m, r, 0, 4, 0)
	entry(t, m, r, 1, 0, 0)
	entry(t, m, r, 2, 6, 0)
	index(t, m, r, 3)
	polled(t, r, 4, 0)
	polled(t, r, 0, 0)
	polled(t, r, 6, 0)
	if r.Left() != 5 || r.Waits() != 2 {
		t.Fatal(r.Left(), r.Waits())
	}
	before, _ := m.Read(0, 128)
	add(t, r, 0, out(510, 3), out(520, 4), out(530, 5), out(540, 6)) // 0, 4, 5, 6
	want := desc(510, 3, 1, 4) + before[16:64] + desc(520, 4, 1, 5) + desc(530, 5, 1, 6) + desc(540, 6, 0, 0) + before[112:]
	if s, _ := m.Read(0, 128); s != want {
		t.Errorf("table is\n%q, want\n%q", s, want)
	}
	if s, _ := m.Read(r.Avail(), 22); s != "\x00\x00\x06\x00"+"\x00\x00\x01\x00\x03\x00\x04\x00\x06\x00\x00\x00"+"\x00\x00\x00\x00\x00\x00" {
		t.Errorf("available: %q", s)
	}
	add(t, r, 7, in(550, 1))
}

func TestAddFills(t *testing.T) { // P2.2: all descriptors of the least and of the greatest ring
	for _, size := range []int{1, 2, api.MaxRing} {
		m := memory(t, 8000)
		r := fresh(t, m, 0, size)
		for k := range size {
			if r.Left() != size-k || r.Waits() != k {
				t.Fatal(size, k, r.Left(), r.Waits())
			}
			add(t, r, uint16(k), in(uint32(7000+k), 1))
		}
		before := all(t, m, r)
		if h, e := r.Add([]api.Buf{out(7900, 1)}); h != 0 || e != api.ErrFull {
			t.Error(size, h, e)
		}
		if h, e := r.Add([]api.Buf{in(7000, 1)}); h != 0 || e != api.ErrFull { // ahead of ErrLent
			t.Error(size, h, e)
		}
		if !all(t, m, r).same(before) {
			t.Error(size, "something changed")
		}
		for k := range size {
			entry(t, m, r, k, uint32(size-1-k), 1)
		}
		index(t, m, r, uint16(size))
		for k := range size {
			polled(t, r, uint16(size-1-k), 1)
		}
		nothing(t, r)
		if r.Left() != size || r.Waits() != 0 || len(m.Lent()) != 1 {
			t.Error(size, r.Left(), r.Waits(), m.Lent())
		}
	}
}

func TestAddErrors(t *testing.T) { // P2.2, in their order
	m := memory(t, 400)
	r := fresh(t, m, 16, 4) // 16 to 134, used 96
	add(t, r, 0, out(200, 10), in(210, 10))
	before := all(t, m, r)
	most := uint32(math.MaxUint32)
	for _, c := range []struct {
		e api.Errno
		l []api.Buf
	}{
		{api.ErrArg, nil},
		{api.ErrArg, []api.Buf{}},
		{api.ErrArg, []api.Buf{out(300, 0)}},
		{api.ErrArg, []api.Buf{in(300, 0)}},
		{api.ErrArg, []api.Buf{out(300, 1), out(310, 0)}},
		{api.ErrArg, []api.Buf{out(300, 1), in(310, 0)}},
		{api.ErrArg, []api.Buf{in(300, 1), out(310, 1)}},
		{api.ErrArg, []api.Buf{out(300, 1), in(310, 1), out(320, 1), in(330, 1)}},
		{api.ErrArg, []api.Buf{in(300, 1), in(310, 1), out(320, 1)}},
		{api.ErrArg, slices.Repeat([]api.Buf{out(300, 1)}, api.MaxChain+1)}, // ahead of ErrFull
		{api.ErrArg, []api.Buf{out(400, 1), out(300, 0)}},                   // ahead of ErrOut
		{api.ErrArg, []api.Buf{in(400, 1), out(300, 1)}},
		{api.ErrArg, []api.Buf{out(400, 0)}},
		{api.ErrArg, []api.Buf{in(210, 1), out(210, 1)}}, // ahead of ErrLent

		{api.ErrOut, []api.Buf{out(400, 1)}},
		{api.ErrOut, []api.Buf{in(400, 1)}},
		{api.ErrOut, []api.Buf{out(399, 2)}},
		{api.ErrOut, []api.Buf{in(0, 401)}},
		{api.ErrOut, []api.Buf{out(most, 1)}},
		{api.ErrOut, []api.Buf{out(most, most)}},
		{api.ErrOut, []api.Buf{in(300, most-299)}}, // whose end would be 0
		{api.ErrOut, []api.Buf{in(300, most-199)}}, // whose end would be 100
		{api.ErrOut, []api.Buf{out(300, 1), in(310, 1), in(399, 2)}},
		{api.ErrOut, []api.Buf{out(300, 1), out(310, 1), out(399, 2)}}, // ahead of ErrFull
		{api.ErrOut, []api.Buf{in(210, 1), in(399, 2)}},                // ahead of ErrLent

		{api.ErrFull, []api.Buf{out(300, 1), out(310, 1), out(320, 1)}},
		{api.ErrFull, slices.Repeat([]api.Buf{out(300, 1)}, api.MaxChain)},
		{api.ErrFull, []api.Buf{out(300, 1), in(210, 1), in(320, 1)}}, // ahead of ErrLent
		{api.ErrFull, []api.Buf{in(300, 1), in(300, 1), in(16, 1)}},

		{api.ErrLent, []api.Buf{in(210, 10)}}, // lent
		{api.ErrLent, []api.Buf{in(209, 2)}},
		{api.ErrLent, []api.Buf{in(219, 1)}},
		{api.ErrLent, []api.Buf{in(219, 50)}},
		{api.ErrLent, []api.Buf{out(300, 1), in(215, 1)}},
		{api.ErrLent, []api.Buf{in(300, 1), in(215, 1)}}, // the first one is not lent either
		{api.ErrLent, []api.Buf{in(16, 1)}},              // the ring's: its table
		{api.ErrLent, []api.Buf{in(0, 17)}},
		{api.ErrLent, []api.Buf{in(0, 400)}},
		{api.ErrLent, []api.Buf{in(79, 1)}},
		{api.ErrLent, []api.Buf{in(80, 4)}}, // the available part
		{api.ErrLent, []api.Buf{in(93, 1)}},
		{api.ErrLent, []api.Buf{in(94, 2)}}, // between the parts
		{api.ErrLent, []api.Buf{in(96, 1)}}, // the used part
		{api.ErrLent, []api.Buf{in(133, 1)}},
		{api.ErrLent, []api.Buf{in(133, 20)}},
		{api.ErrLent, []api.Buf{in(300, 1), in(80, 1)}},
		{api.ErrLent, []api.Buf{in(300, 4), in(300, 4)}}, // in two
		{api.ErrLent, []api.Buf{in(300, 4), in(303, 4)}},
		{api.ErrLent, []api.Buf{in(303, 4), in(300, 4)}},
		{api.ErrLent, []api.Buf{in(300, 9), in(304, 1)}},
	} {
		if h, e := r.Add(c.l); h != 0 || e != c.e {
			t.Errorf("Add(%v): %d %v, want %v", c.l, h, e, c.e)
		}
		if !all(t, m, r).same(before) {
			t.Fatalf("Add(%v) changed something", c.l)
		}
	}
	nothing(t, r)
}

func TestAddBesides(t *testing.T) { // P2.2: what may be, though it is near
	for _, l := range [][]api.Buf{
		{in(0, 16)},               // up to the ring
		{in(134, 1)},              // behind it
		{in(399, 1)},              // up to the memory's end
		{in(134, 266)},            // all of it
		{in(300, 4), in(304, 4)},  // side by side
		{in(304, 4), in(300, 4)},  //
		{out(300, 4), in(304, 4)}, //
		{out(300, 4), out(300, 4)},
		{out(300, 4), out(302, 9), out(301, 1)}, // over one another, not In
		{out(0, 400)},                           // the ring's, lent: not In
		{out(96, 38)},
		{out(300, 4), in(302, 4)}, // one alone is In
	} {
		m := memory(t, 400)
		r := fresh(t, m, 16, 4)
		add(t, r, 0, l...)
		if got, e := r.Chain(0); !slices.Equal(got, l) || e != api.OK {
			t.Errorf("Chain of %v: %v %v", l, got, e)
		}
		for _, b := range l {
			if b.In {
				device(t, m, b.At, strings.Repeat("d", int(b.Len)))
			}
		}
	}
}

func TestAddSideBySide(t *testing.T) { // P2.2, P2.3: buffers of several chains that touch
	m := memory(t, 400)
	r := fresh(t, m, 0, 4)
	add(t, r, 0, in(210, 10))
	add(t, r, 1, in(200, 10))
	add(t, r, 2, in(220, 10))
	if l := m.Lent(); !slices.Equal(l, []api.Span{span(r.Used(), 38), span(200, 30)}) {
		t.Fatal("lent is", l)
	}
	entry(t, m, r, 0, 0, 10)
	index(t, m, r, 1)
	polled(t, r, 0, 10)
	if l := m.Lent(); !slices.Equal(l, []api.Span{span(r.Used(), 38), span(200, 10), span(220, 10)}) {
		t.Fatal("lent is", l)
	}
}

func TestIndexGoesRound(t *testing.T) { // P2.2, P2.3
	for _, size := range []int{1, 4, api.MaxRing} {
		m := memory(t, 8000)
		r := fresh(t, m, 0, size)
		for k := range 65536 + 2*size + 3 {
			add(t, r, 0, in(7000, 100))
			if x, _ := m.U16(r.Avail() + 2); x != uint16(k+1) {
				t.Fatalf("size %d: index is %d behind %d", size, x, k+1)
			}
			slot := r.Avail() + 4 + 2*uint32(k%size)
			if x, _ := m.U16(slot); x != 0 {
				t.Fatalf("size %d: head %d of %d", size, x, k)
			}
			nothing(t, r)
			entry(t, m, r, k%size, 0, uint32(k%101))
			index(t, m, r, uint16(k+1))
			polled(t, r, 0, uint32(k%101))
			nothing(t, r)
		}
	}
}

func TestIndexGoesRoundWhileChainsWait(t *testing.T) { // P2.2, P2.3
	m := memory(t, 8000)
	r := fresh(t, m, 0, 4)
	for k := range 65534 {
		add(t, r, 0, out(7000, 1))
		entry(t, m, r, k%4, 0, 0)
		index(t, m, r, uint16(k+1))
		polled(t, r, 0, 0)
	}
	for k := range 4 {
		add(t, r, uint16(k), out(7000, 1))
	}
	if x, _ := m.U16(r.Avail() + 2); x != 2 {
		t.Fatal("index is", x)
	}
	if s, _ := m.Read(r.Avail()+4, 8); s != "\x02\x00\x03\x00\x00\x00\x01\x00" {
		t.Fatalf("heads are %q", s)
	}
	for k, h := range []uint32{3, 1, 0, 2} {
		entry(t, m, r, (65534+k)%4, h, 0)
	}
	index(t, m, r, 2)
	for _, h := range []uint16{3, 1, 0, 2} {
		polled(t, r, h, 0)
	}
	nothing(t, r)
	add(t, r, 0, out(7000, 1))
	index(t, m, r, 1) // back
	breaks(t, m, r)
}

func TestAddWhereOthersLent(t *testing.T) { // P2.2: nothing changes, where it can't be written
	for _, c := range []struct {
		at uint32
		e  api.Errno
	}{
		{0, api.ErrLent}, {15, api.ErrLent}, {31, api.ErrLent}, // descriptors 0 and 1
		{32, api.OK}, {63, api.OK}, // those that are not taken
		{64, api.OK},                         // flags
		{66, api.ErrLent}, {67, api.ErrLent}, // index
		{68, api.ErrLent}, {69, api.ErrLent}, // the head
		{70, api.OK}, {75, api.OK}, {76, api.OK}, // other heads, the end
	} {
		m := memory(t, 300)
		r := fresh(t, m, 0, 4)
		if e := m.Lend(span(c.at, 1)); e != api.OK {
			t.Fatal(e)
		}
		before := all(t, m, r)
		if h, e := r.Add([]api.Buf{out(200, 1), in(210, 1)}); h != 0 || e != c.e {
			t.Errorf("with %d lent: %d %v, want %v", c.at, h, e, c.e)
		}
		if c.e != api.OK && !all(t, m, r).same(before) {
			t.Errorf("with %d lent: something changed", c.at)
		}
	}
	m := memory(t, 300)
	r := fresh(t, m, 0, 4)
	add(t, r, 0, out(200, 1))
	if e := m.Lend(span(68, 2)); e != api.OK { // where the first head stands: the second one stands behind it
		t.Fatal(e)
	}
	add(t, r, 1, out(200, 1))
}
