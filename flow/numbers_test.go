package flow_test

import (
	"math/rand"
	"testing"

	"pharos/api"
	"pharos/flow"
)

// bases are numbers from which others are counted.
var bases = []uint32{0, 1, 2, 65535, 65536, 1<<31 - 1, 1 << 31, 1<<31 + 1, 0x12345678, 1<<32 - 2, 1<<32 - 1}

// around is a number less another one, modulo 2^32, counted in numbers that do not go round.
func around(x, from uint32) int64 {
	d := int64(x) - int64(from)
	if d < 0 {
		d += 1 << 32
	}
	return d
}

// P20.1: a is less than b, if b less a is from 1 to 2^31 - 1, wherever they stand.
func TestLess(t *testing.T) {
	for _, a := range bases {
		for _, d := range []uint32{1, 2, 255, 256, 65535, 65536, 1 << 30, 1<<31 - 2, 1<<31 - 1} {
			if !flow.Less(a, a+d) || flow.Less(a+d, a) {
				t.Errorf("%d and %d behind it: %v %v", a, d, flow.Less(a, a+d), flow.Less(a+d, a))
			}
		}
		if flow.Less(a, a) {
			t.Errorf("%d: less than itself", a)
		}
		if flow.Less(a, a+1<<31) || flow.Less(a+1<<31, a) {
			t.Errorf("%d: half a round away is less, or more", a)
		}
	}
}

// P20.1: a number is in so many from a first one on, if it less the first one is below how many they are.
func TestIn(t *testing.T) {
	for _, from := range bases {
		for _, size := range []uint32{1, 2, 4, 65535, 65536, 65537, 1<<31 - 1, 1 << 31, 1<<31 + 1, 1<<32 - 2, 1<<32 - 1} {
			for _, x := range []uint32{from, from + (size-1)/2, from + size - 1} {
				if !flow.In(x, from, size) {
					t.Errorf("In(%d, %d, %d): no", x, from, size)
				}
			}
			for _, x := range []uint32{from + size, from - 1} {
				if flow.In(x, from, size) {
					t.Errorf("In(%d, %d, %d): yes", x, from, size)
				}
			}
		}
		for _, d := range []uint32{0, 1, 2, 1 << 31, 1<<32 - 1} {
			if flow.In(from+d, from, 0) {
				t.Errorf("In(%d, %d, 0): yes", from+d, from)
			}
		}
	}
}

// P20.1: so it is of drawn numbers, near to one another and far.
func TestNumbersAsInTheDocument(t *testing.T) {
	d := rand.New(rand.NewSource(2001))
	seen := map[[2]bool]int{}
	for range 200000 {
		a, b, size := d.Uint32(), d.Uint32(), d.Uint32()
		if d.Intn(2) == 0 {
			b = a + uint32(d.Intn(9)-4) + uint32(d.Intn(2))<<31
			size = uint32(d.Intn(5)) + uint32(d.Intn(2))<<31
		}
		n := around(b, a)
		less, in := 1 <= n && n <= 1<<31-1, n < int64(size)
		seen[[2]bool{less, in}]++
		if flow.Less(a, b) != less {
			t.Fatalf("Less(%d, %d): %v", a, b, !less)
		}
		if flow.In(b, a, size) != in {
			t.Fatalf("In(%d, %d, %d): %v", b, a, size, !in)
		}
	}
	for _, k := range [][2]bool{{false, false}, {false, true}, {true, false}, {true, true}} {
		if seen[k] < 1000 {
			t.Errorf("less and in %v: %d times", k, seen[k])
		}
	}
}

// P20.1: a window is from 1 to 65,536 bytes, else there is no queue.
func TestWhichWindow(t *testing.T) {
	for _, window := range []int{0, -1, -65536, -1 << 63, 65537, 65538, 1 << 17, 1 << 31, 1 << 32, 1<<32 + 1, 1<<63 - 1} {
		if q, e := flow.New(7, window); q != nil || e != api.ErrArg {
			t.Errorf("New(7, %d): %v %v", window, q, e)
		}
	}
	for _, window := range []int{1, 2, 65535, 65536} {
		made(t, 7, window).is(7, window, 0, 0)
	}
}

// P20.1: a new queue has no bytes, whichever its first number is.
func TestNewHasNothing(t *testing.T) {
	for _, next := range bases {
		q := made(t, next, 9)
		q.is(next, 9, 0, 0)
		q.reads(9, "")
		q.stays(next, "")
		q.is(next, 9, 0, 0)
	}
}

// P20.1, R5: each queue has bytes of its own.
func TestQueuesAreApart(t *testing.T) {
	a, b := made(t, 5, 9), made(t, 5, 9)
	a.goes(5, "ab")
	a.stays(8, "d")
	b.is(5, 9, 0, 0)
	b.goes(5, "xyz")
	a.is(7, 7, 2, 1)
	a.reads(9, "ab")
	b.reads(9, "xyz")
}

// R3: of nil, and of a queue that New did not make, there is nothing, and nothing is done to it.
func TestNone(t *testing.T) {
	for _, x := range []*flow.Queue{nil, new(flow.Queue), {}} {
		for range 2 {
			q := queue{x, t}
			q.tells(0, 0, 0, 0, false)
			for _, fin := range []bool{false, true} {
				q.puts(0, "", fin, false)
				q.puts(0, "ab", fin, false)
				q.puts(1<<32-1, "ab", fin, false)
			}
			q.reads(9, "")
			q.reads(-1, "")
			q.tells(0, 0, 0, 0, false)
		}
	}
}
