package mem_test

import (
	"math"
	"strings"
	"testing"

	"pharos/api"
	"pharos/mem"
)

// pool is a new pool in that memory.
func pool(t *testing.T, m *mem.Mem, place uint32, size, count int) *mem.Pool {
	t.Helper()
	p, e := mem.NewPool(m, place, size, count)
	if e != api.OK || p == nil {
		t.Fatalf("NewPool(%d, %d, %d): %v", place, size, count, e)
	}
	return p
}

// gets fails unless Get tells that place.
func gets(t *testing.T, p *mem.Pool, place uint32) {
	t.Helper()
	if a, e := p.Get(); a != place || e != api.OK {
		t.Errorf("Get: %d %v, want %d", a, e, place)
	}
}

// whose fails unless the buffer at that place is so.
func whose(t *testing.T, p *mem.Pool, place uint32, who uint8) {
	t.Helper()
	if w, e := p.Whose(place); w != who || e != api.OK {
		t.Errorf("Whose(%d): %d %v, want %d", place, w, e, who)
	}
}

func TestNewPool(t *testing.T) { // P1.5
	m := fresh(t, 1024)
	for _, c := range []struct {
		at          uint32
		size, count int
		e           api.Errno
	}{
		{0, 1, 1, api.OK},
		{1023, 1, 1, api.OK},
		{0, 1024, 1, api.OK},
		{0, 4, api.MaxPool, api.OK}, // ends at the memory's end
		{24, 100, 10, api.OK},
		{0, 0, 1, api.ErrArg},
		{0, -1, 1, api.ErrArg},
		{0, math.MinInt, 1, api.ErrArg},
		{0, 1, 0, api.ErrArg},
		{0, 1, -1, api.ErrArg},
		{0, -1, -1, api.ErrArg},
		{0, 1, api.MaxPool + 1, api.ErrArg},
		{2000, 0, 1, api.ErrArg}, // ahead of ErrOut
		{2000, 1, api.MaxPool + 1, api.ErrArg},
		{0, math.MaxInt, math.MaxInt, api.ErrArg},
		{1, 4, api.MaxPool, api.ErrOut},
		{0, 5, api.MaxPool, api.ErrOut},
		{25, 100, 10, api.ErrOut},
		{1024, 1, 1, api.ErrOut},
		{0, 1025, 1, api.ErrOut},
		{math.MaxUint32, 1, 1, api.ErrOut},
		{math.MaxUint32, 1, 2, api.ErrOut},
		{0, math.MaxInt, 1, api.ErrOut},
		{0, math.MaxInt, 2, api.ErrOut},
		{0, math.MaxInt/2 + 1, 2, api.ErrOut},
		{0, math.MaxInt/2 + 1, 4, api.ErrOut}, // the product would go round to 0
		{0, math.MaxInt/128 + 1, api.MaxPool, api.ErrOut},
		{1, 1 << 32, 1, api.ErrOut},
	} {
		p, e := mem.NewPool(m, c.at, c.size, c.count)
		if e != c.e || (p == nil) != (e != api.OK) {
			t.Errorf("NewPool(%d, %d, %d): %v, want %v", c.at, c.size, c.count, e, c.e)
			continue
		}
		if e == api.OK && p.Left() != c.count {
			t.Errorf("NewPool(%d, %d, %d): %d are left", c.at, c.size, c.count, p.Left())
		}
		for i := 0; e == api.OK && i < c.count; i++ {
			whose(t, p, c.at+uint32(i*c.size), api.Free)
		}
	}
	stands(t, m, strings.Repeat("\x00", 1024))
}

func TestNewPoolWithoutMemory(t *testing.T) { // P1.5, R3
	for name, m := range nones() {
		for _, size := range []int{1, 0} { // ErrNil is ahead of ErrArg
			if p, e := mem.NewPool(m, 0, size, 1); p != nil || e != api.ErrNil {
				t.Errorf("%s: %v %v", name, p, e)
			}
		}
	}
}

func TestGetTakesTheFirst(t *testing.T) { // P1.5
	p := pool(t, fresh(t, 64), 5, 10, 3)
	for i, place := range []uint32{5, 15, 25} {
		gets(t, p, place)
		whose(t, p, place, api.Driver)
		if p.Left() != 2-i {
			t.Errorf("%d are left", p.Left())
		}
	}
	for range 2 {
		if a, e := p.Get(); a != 0 || e != api.ErrFull {
			t.Errorf("Get of none: %d %v", a, e)
		}
	}
	want(t, "Put", p.Put(25), api.OK)
	want(t, "Put", p.Put(5), api.OK)
	whose(t, p, 5, api.Free)
	if p.Left() != 2 {
		t.Errorf("%d are left", p.Left())
	}
	gets(t, p, 5)
	want(t, "Put", p.Put(5), api.OK)
	gets(t, p, 5)
	gets(t, p, 25)
}

func TestGreatestPool(t *testing.T) { // P1.5, at MaxPool and MaxMem
	const size = api.MaxMem / api.MaxPool
	p := pool(t, fresh(t, api.MaxMem), 0, size, api.MaxPool)
	for i := range uint32(api.MaxPool) {
		gets(t, p, i*size)
	}
	if a, e := p.Get(); a != 0 || e != api.ErrFull {
		t.Errorf("Get: %d %v", a, e)
	}
	want(t, "Give", p.Give(api.MaxMem-size), api.OK)
	want(t, "Give beyond", p.Give(api.MaxMem), api.ErrArg)

	p = pool(t, fresh(t, api.MaxMem), 0, api.MaxMem, 1)
	gets(t, p, 0)
	want(t, "Give of all", p.Give(0), api.OK)
}

func TestBuffersGoRound(t *testing.T) { // P1.5
	m := fresh(t, 16)
	none := strings.Repeat("\x00", 16)
	p := pool(t, m, 2, 4, 3)
	gets(t, p, 2)
	gets(t, p, 6)

	want(t, "Put of a Free one", p.Put(10), api.ErrState)
	want(t, "Give of a Free one", p.Give(10), api.ErrState)
	want(t, "Take of a Free one", p.Take(10), api.ErrState)
	want(t, "Take of the Driver's", p.Take(2), api.ErrState)
	stands(t, m, none)

	want(t, "Give", p.Give(6), api.OK)
	whose(t, p, 6, api.Device)
	stands(t, m, none, at(6, 4))
	want(t, "Put of the Device's", p.Put(6), api.ErrState)
	want(t, "Give of the Device's", p.Give(6), api.ErrState)
	whose(t, p, 6, api.Device)
	if p.Left() != 1 {
		t.Errorf("%d are left", p.Left())
	}

	want(t, "Give", p.Give(2), api.OK)
	stands(t, m, none, at(2, 8)) // side by side
	want(t, "Take", p.Take(6), api.OK)
	whose(t, p, 6, api.Driver)
	whose(t, p, 2, api.Device)
	stands(t, m, none, at(2, 4))
	want(t, "Take again", p.Take(6), api.ErrState)
	want(t, "Put", p.Put(6), api.OK)
	whose(t, p, 6, api.Free)
	want(t, "Put again", p.Put(6), api.ErrState)
}

func TestPlacesThatAreNoBuffers(t *testing.T) { // P1.5
	m := fresh(t, 32)
	p := pool(t, m, 8, 4, 3)
	gets(t, p, 8)
	gets(t, p, 12)
	want(t, "Give", p.Give(12), api.OK)
	for _, place := range []uint32{0, 4, 7, 9, 10, 11, 13, 19, 20, 24, 32, 1 << 31, math.MaxUint32 - 3, math.MaxUint32} {
		want(t, "Put", p.Put(place), api.ErrArg)
		want(t, "Give", p.Give(place), api.ErrArg)
		want(t, "Take", p.Take(place), api.ErrArg)
		if w, e := p.Whose(place); w != 0 || e != api.ErrArg {
			t.Errorf("Whose(%d): %d %v", place, w, e)
		}
	}
	whose(t, p, 8, api.Driver)
	whose(t, p, 12, api.Device)
	whose(t, p, 16, api.Free)
	stands(t, m, strings.Repeat("\x00", 32), at(12, 4))
}

func TestGiveTellsLendsError(t *testing.T) { // P1.5
	m := fresh(t, 16)
	none := strings.Repeat("\x00", 16)
	p := pool(t, m, 4, 4, 2)
	gets(t, p, 4)
	want(t, "Lend", m.Lend(at(7, 1)), api.OK)
	want(t, "Give", p.Give(4), api.ErrLent)
	want(t, "Give of a Free one", p.Give(8), api.ErrState) // ahead of Lend's
	want(t, "Give of no buffer", p.Give(7), api.ErrArg)
	whose(t, p, 4, api.Driver)
	stands(t, m, none, at(7, 1))
	want(t, "Back", m.Back(at(7, 1)), api.OK)
	want(t, "Give", p.Give(4), api.OK)
	stands(t, m, none, at(4, 4))
}

func TestTakeTellsBacksError(t *testing.T) { // P1.5
	m := fresh(t, 16)
	none := strings.Repeat("\x00", 16)
	p := pool(t, m, 4, 4, 2)
	gets(t, p, 4)
	want(t, "Give", p.Give(4), api.OK)
	want(t, "Back", m.Back(at(5, 1)), api.OK)
	want(t, "Take", p.Take(4), api.ErrKept)
	whose(t, p, 4, api.Device)
	stands(t, m, none, at(4, 1), at(6, 2))
	want(t, "Lend", m.Lend(at(5, 1)), api.OK)
	want(t, "Take", p.Take(4), api.OK)
	stands(t, m, none)
}

func TestGetDoesNotAskWhatIsLent(t *testing.T) { // P1.5
	m := fresh(t, 8)
	want(t, "Lend", m.Lend(at(0, 8)), api.OK)
	p := pool(t, m, 0, 4, 2)
	gets(t, p, 0)
	want(t, "Put", p.Put(0), api.OK)
	stands(t, m, strings.Repeat("\x00", 8), at(0, 8))
}

func TestNoPool(t *testing.T) { // P1.5, R3
	for name, p := range map[string]*mem.Pool{"nil": nil, "zero": {}, "new": new(mem.Pool)} {
		t.Run(name, func(t *testing.T) {
			if a, e := p.Get(); a != 0 || e != api.ErrNil {
				t.Errorf("Get: %d %v", a, e)
			}
			for _, place := range []uint32{0, 1, math.MaxUint32} {
				want(t, "Put", p.Put(place), api.ErrNil)
				want(t, "Give", p.Give(place), api.ErrNil)
				want(t, "Take", p.Take(place), api.ErrNil)
				if w, e := p.Whose(place); w != 0 || e != api.ErrNil {
					t.Errorf("Whose: %d %v", w, e)
				}
			}
			if p.Left() != 0 {
				t.Error("some are left")
			}
		})
	}
}

func TestPoolsOfOneMemory(t *testing.T) { // P1.5, P1.6
	m := fresh(t, 16)
	p, q := pool(t, m, 0, 4, 2), pool(t, m, 8, 4, 2)
	gets(t, p, 0)
	gets(t, q, 8)
	want(t, "Give", p.Give(0), api.OK)
	whose(t, q, 8, api.Driver)
	want(t, "Put of the other one's", q.Put(0), api.ErrArg)
	want(t, "Write by the driver", m.Write(8, "driv"), api.OK)
	want(t, "Device", m.Device(0, "devi"), api.OK)
	stands(t, m, "devi\x00\x00\x00\x00driv\x00\x00\x00\x00", at(0, 4))
}
