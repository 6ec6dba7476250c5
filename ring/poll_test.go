package ring_test

import (
	"math"
	"slices"
	"strings"
	"testing"

	"pharos/api"
	"pharos/mem"
	"pharos/ring"
)

// three is a ring of 8 with three chains: 0 (has room for 6 bytes), 3 (for none), 5 (for 4).
func three(t *testing.T) (*mem.Mem, *ring.Ring) {
	t.Helper()
	m := memory(t, 500)
	r := fresh(t, m, 16, 8)
	add(t, r, 0, out(300, 100), in(400, 2), in(410, 4))
	add(t, r, 3, out(300, 7), out(307, 9))
	add(t, r, 5, in(420, 4))
	return m, r
}

func TestPollInAnyOrder(t *testing.T) { // P2.3
	m, r := three(t)
	nothing(t, r)
	entry(t, m, r, 0, 5, 4)
	nothing(t, r) // the index says when
	index(t, m, r, 1)
	polled(t, r, 5, 4)
	nothing(t, r)
	if r.Waits() != 2 || r.Left() != 3 {
		t.Error(r.Waits(), r.Left())
	}
	if l := m.Lent(); !slices.Equal(l, []api.Span{span(r.Used(), 70), span(400, 2), span(410, 4)}) {
		t.Error("lent is", l)
	}
	entry(t, m, r, 1, 3, 0)
	entry(t, m, r, 2, 0, 5)
	index(t, m, r, 3)
	polled(t, r, 3, 0)
	if r.Waits() != 1 || r.Left() != 5 {
		t.Error(r.Waits(), r.Left())
	}
	polled(t, r, 0, 5)
	nothing(t, r)
	if r.Waits() != 0 || r.Left() != 8 || r.Broken() {
		t.Error(r.Waits(), r.Left(), r.Broken())
	}
	if l := m.Lent(); !slices.Equal(l, []api.Span{span(r.Used(), 70)}) {
		t.Error("lent is", l)
	}
}

func TestPollReads(t *testing.T) { // P2.3: what the device wrote stands there, and is the driver's
	m, r := three(t)
	device(t, m, 400, "ab")
	device(t, m, 410, "cdef")
	entry(t, m, r, 0, 0, 6)
	index(t, m, r, 1)
	polled(t, r, 0, 6)
	for _, at := range []uint32{400, 401, 410, 413} {
		if e := m.Device(at, "x"); e != api.ErrKept {
			t.Errorf("the device writes at %d: %v", at, e)
		}
	}
	if s, _ := m.Read(400, 14); s != "abmmmmmmmmcdef" {
		t.Errorf("%q", s)
	}
	if e := m.Write(400, "mine"); e != api.OK {
		t.Error(e)
	}
}

func TestPollLengths(t *testing.T) { // P2.3: up to all Lens of the buffers that are In
	for _, c := range []struct {
		head, room uint32
	}{{0, 6}, {3, 0}, {5, 4}} {
		for _, n := range []uint32{0, 1, 2, 4, 5, 6, 7, 8, 16, 100, 106, 1 << 31, math.MaxUint32} {
			m, r := three(t)
			entry(t, m, r, 0, c.head, n)
			index(t, m, r, 1)
			if n <= c.room {
				polled(t, r, uint16(c.head), n)
			} else {
				breaks(t, m, r)
			}
		}
	}
}

func TestPollHeads(t *testing.T) { // P2.3: heads of no chain that waits
	for _, head := range []uint32{1, 2, 4, 6, 7, 8, 9, 255, 256, 65535, 65536, 65536 + 5, 5 << 16, 5 << 24, 1<<31 + 5, math.MaxUint32} {
		m, r := three(t)
		entry(t, m, r, 0, head, 0)
		index(t, m, r, 1)
		breaks(t, m, r)
	}
}

func TestPollTheSameTwice(t *testing.T) { // P2.3, P2.5
	m, r := three(t)
	entry(t, m, r, 0, 5, 1)
	entry(t, m, r, 1, 5, 1)
	index(t, m, r, 2)
	polled(t, r, 5, 1)
	breaks(t, m, r)
}

func TestPollTheSameAgain(t *testing.T) { // P2.3: the head is another chain's by now
	m, r := three(t)
	entry(t, m, r, 0, 5, 1)
	index(t, m, r, 1)
	polled(t, r, 5, 1)
	add(t, r, 5, in(430, 2))
	entry(t, m, r, 1, 5, 2)
	index(t, m, r, 2)
	polled(t, r, 5, 2)
}

func TestPollIndexes(t *testing.T) { // P2.3: an index that is too far on
	for _, x := range []uint16{1, 2, 3} {
		m, r := three(t)
		for k, h := range []uint32{0, 3, 5} {
			entry(t, m, r, k, h, 0)
		}
		index(t, m, r, x)
		for _, h := range []uint16{0, 3, 5}[:x] {
			polled(t, r, h, 0)
		}
		nothing(t, r)
	}
	for _, x := range []uint16{4, 5, 8, 9, 255, 256, 257, 1 << 15, 65533, 65535} {
		m, r := three(t)
		for k, h := range []uint32{0, 3, 5} {
			entry(t, m, r, k, h, 0)
		}
		index(t, m, r, x)
		breaks(t, m, r)
	}
	m, r := three(t) // too far on by one, once one was polled
	entry(t, m, r, 0, 3, 0)
	entry(t, m, r, 1, 0, 0)
	index(t, m, r, 1)
	polled(t, r, 3, 0)
	index(t, m, r, 4)
	breaks(t, m, r)
	m, r = three(t) // back
	entry(t, m, r, 0, 3, 0)
	index(t, m, r, 1)
	polled(t, r, 3, 0)
	index(t, m, r, 0)
	breaks(t, m, r)
}

func TestPollWithoutChains(t *testing.T) { // P2.3
	for _, size := range []int{1, api.MaxRing} {
		m := memory(t, 7000)
		r := fresh(t, m, 0, size)
		nothing(t, r)
		index(t, m, r, 1)
		breaks(t, m, r)
	}
}

func TestPollWhatOthersTookBack(t *testing.T) { // P2.3: its buffers are the driver's again, all bytes
	m, r := three(t)
	for _, s := range []api.Span{span(411, 1), span(413, 1), span(420, 4)} {
		if e := m.Back(s); e != api.OK {
			t.Fatal(e)
		}
	}
	if e := m.Lend(span(414, 3)); e != api.OK { // another one's
		t.Fatal(e)
	}
	entry(t, m, r, 0, 0, 6)
	entry(t, m, r, 1, 5, 0)
	index(t, m, r, 2)
	polled(t, r, 0, 6)
	polled(t, r, 5, 0)
	if l := m.Lent(); !slices.Equal(l, []api.Span{span(r.Used(), 70), span(414, 3)}) {
		t.Error("lent is", l)
	}
}

func TestDeviceChangesNothingElse(t *testing.T) { // P2.5
	m, r := three(t)
	entry(t, m, r, 0, 5, 0)
	index(t, m, r, 1)
	polled(t, r, 5, 0)
	may := func(at int) bool {
		used := int(r.Used())
		return at >= used && at < used+70 || at >= 400 && at < 402 || at >= 410 && at < 414
	}
	before, _ := m.Read(0, m.Size())
	for at := range m.Size() {
		for n := 1; n <= m.Size()-at; n++ {
			ok := true
			for k := at; ok && k < at+n; k++ {
				ok = may(k)
			}
			if e := m.Device(uint32(at), strings.Repeat("\xff", n)); (e == api.OK) != ok {
				t.Fatalf("the device writes %d at %d: %v", n, at, e)
			}
		}
	}
	after, _ := m.Read(0, m.Size())
	for at := range m.Size() {
		if may(at) != (after[at] != before[at]) {
			t.Fatalf("byte %d: was %d, is %d", at, before[at], after[at])
		}
	}
	breaks(t, m, r)
}
