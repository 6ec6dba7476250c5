package vblk_test

import (
	"math"
	"slices"
	"strings"
	"testing"

	"pharos/api"
)

func TestRead(t *testing.T) { // P4.2: the document's example
	k := fresh(t, 4, 1, 8)
	k.asked(3, 1)
	k.waiting(1, 1)
	k.refused(4, api.ErrFull)
	k.refused(8, api.ErrArg)
	k.waiting(1, 1)
	k.bring(0, block(3))
	k.refused(4, api.ErrFull) // till Poll has told it
	k.told(api.OK, good(1, 3, block(3)))
	k.waiting(0, 0)
	k.asked(4, 2) // what was refused has no number
	k.use(0, block(4), "\x01", 1025)
	k.told(api.ErrFailed, bad(2, 4))
	k.refused(0, api.ErrFailed)
	k.over()
}

func TestReadBlocks(t *testing.T) { // P4.2: below Blocks
	for _, blocks := range []uint32{1, 2, 8, 65535, 65536} {
		for _, b := range []uint32{0, 1, 2, 7, 8, 9, 65534, 65535, 65536, 65537, 1 << 20, 1 << 31, math.MaxUint32} {
			k := fresh(t, 4, 1, blocks)
			if b < blocks {
				k.asked(b, 1)
				k.refused(blocks, api.ErrArg) // ahead of ErrFull
				k.refused(b, api.ErrFull)
				continue
			}
			before := k.all()
			k.refused(b, api.ErrArg)
			if !slices.Equal(k.all(), before) {
				t.Fatalf("Read(%d), refused, changes something", b)
			}
			k.asked(blocks-1, 1)
		}
	}
}

func TestReadWrites(t *testing.T) { // P4.2: what stands where, and what the device is told
	for _, from := range []int{0, 48} {
		k := at(t, from, conf(16, 4, 65536))
		lent := k.m.Lent()
		for i, b := range []uint32{0, 65535, 300, 300} {
			k.asked(b, uint32(i+1))
			place := k.pool + 1041*i
			want := strings.Repeat("\x00", 8) + low(2*uint64(b), 8) + strings.Repeat("m", 1024) + "\xff"
			if k.look(place, 1041) != want {
				t.Fatalf("request %d: %.40q", i, k.look(place, 1041))
			}
			p := uint32(place)
			bufs := []api.Buf{{At: p, Len: 16}, {At: p + 16, Len: 1024, In: true}, {At: p + 1040, Len: 1, In: true}}
			if l := k.chain(3 * i); !slices.Equal(l, bufs) {
				t.Fatalf("chain %d: %v, want %v", i, l, bufs)
			}
			a := int(k.Ring().Avail())
			if s := k.look(a+2, 2) + k.look(a+4+2*i, 2); s != low(uint64(i+1), 2)+low(uint64(3*i), 2) {
				t.Fatalf("available: %q", s)
			}
			lent = append(lent, span(p+16, 1025)) // the head is not lent
			if l := k.m.Lent(); !slices.Equal(l, lent) {
				t.Fatalf("lent is %v, must be %v", l, lent)
			}
			k.waiting(i+1, i+1)
		}
		before := k.all()
		k.refused(0, api.ErrFull)
		if !slices.Equal(k.all(), before) {
			t.Fatal("a Read without a free buffer changes something")
		}
	}
}

func TestReadOldBytes(t *testing.T) { // P4.2: head and status are written anew, whatever stood there
	k := fresh(t, 4, 1, 65536)
	for i, b := range []uint32{65535, 0, 1, 256} {
		k.asked(b, uint32(i+1))
		if s := k.look(k.pool, 16); s != strings.Repeat("\x00", 8)+low(2*uint64(b), 8) {
			t.Fatalf("head of block %d: %q", b, s)
		}
		if s := k.look(k.pool+1040, 1); s != "\xff" {
			t.Fatalf("status: %q", s)
		}
		k.bring(0, block(int(b)))
		k.told(api.OK, good(uint32(i+1), b, block(int(b))))
	}
}

func TestReadSlots(t *testing.T) { // P4.2: as many as there are buffers, or chains of three in the ring: the lesser of both
	for _, ring := range []int{1, 2, 4, 8, 16, 32, 64, 128, 256} {
		for _, slots := range []int{1, 2, 3, 5, 10, 31, 32} {
			k := fresh(t, ring, slots, 9)
			most := min(slots, ring/3)
			for round := range 2 {
				for i := range most {
					k.asked(uint32(i%9), uint32(round*most+i+1))
				}
				lent := k.m.Lent()
				for range 3 {
					k.refused(5, api.ErrFull)
					k.waiting(most, most)
				}
				if k.Failed() || k.Ring().Broken() || !slices.Equal(k.m.Lent(), lent) {
					t.Fatalf("%d %d: a Read that is refused changes something", ring, slots)
				}
				var want []api.Block
				for i := range most {
					k.bring(3*i, block(i))
					want = append(want, good(uint32(round*most+i+1), uint32(i%9), block(i)))
				}
				k.told(api.OK, want...)
				k.waiting(0, 0)
			}
		}
	}
}

func TestReadRingFull(t *testing.T) { // P4.2: of ErrFull of the ring the buffer is Put back: no buffer gets lost, and no number
	k := fresh(t, 4, 2, 8)
	k.asked(1, 1)
	for range 10 {
		k.refused(2, api.ErrFull)
	}
	if s := k.look(k.pool+1041, 16) + k.look(k.pool+2*1041-1, 1); s != strings.Repeat("\x00", 8)+low(4, 8)+"\xff" {
		t.Errorf("the head is not written: %q", s)
	}
	k.bring(0, block(1))
	k.told(api.OK, good(1, 1, block(1)))
	k.asked(2, 2)
	if l := k.chain(0); int(l[0].At) != k.pool {
		t.Errorf("the buffer at %d is taken, the first stands at %d", l[0].At, k.pool)
	}
	k.waiting(1, 1)
}

func TestReadTakesTheFirstFree(t *testing.T) { // P4.2: of buffers, and of numbers the next
	k := fresh(t, 16, 4, 8)
	for i := range 4 {
		k.asked(uint32(i), uint32(i+1))
	}
	k.bring(6, block(2))
	k.bring(3, block(1))
	k.told(api.OK, good(3, 2, block(2)), good(2, 1, block(1)))
	k.asked(7, 5)
	k.asked(6, 6)
	k.refused(5, api.ErrFull)
	for i, h := range []int{0, 3, 6, 9} {
		if l := k.chain(h); int(l[0].At) != k.pool+1041*i {
			t.Errorf("chain %d stands at %d, from %d on", h, l[0].At, k.pool)
		}
	}
	k.bring(3, block(7))
	k.bring(9, block(3))
	k.told(api.OK, good(5, 7, block(7)), good(4, 3, block(3)))
}

func TestReadNumbers(t *testing.T) { // P4.2, P4.5: each once, while indexes go round at 65,536
	for _, ring := range []int{4, 16} {
		k := fresh(t, ring, 2, 65536)
		for i := range 66_000 {
			b := uint32(i % 65536)
			k.asked(b, uint32(i+1))
			data := block(i)
			k.bring(0, data)
			k.told(api.OK, good(uint32(i+1), b, data))
		}
		k.waiting(0, 0)
	}
}

func TestReadWhereSomethingIsLent(t *testing.T) { // P4.2: any error but ErrFull makes the disk fail
	for _, byte := range []int{0, 7, 8, 15, 16, 500, 1039, 1040} { // of the head and the status Write's, of the data Add's
		k := fresh(t, 16, 2, 8)
		if e := k.m.Lend(span(uint32(k.pool+byte), 1)); e != api.OK {
			t.Fatal(e)
		}
		if k.Failed() {
			t.Fatal("it has failed ahead of it")
		}
		k.refused(8, api.ErrArg) // ahead of it
		k.refused(0, api.ErrFailed)
		k.waiting(0, 0)
		k.over()
		if e := k.m.Back(span(uint32(k.pool+byte), 1)); e != api.OK {
			t.Fatal(e)
		}
		k.over() // for ever
	}
	for _, byte := range []int{0, 47, 258, 260} { // the table, the index and the list that are available
		k := fresh(t, 16, 2, 8)
		if e := k.m.Lend(span(uint32(byte), 1)); e != api.OK {
			t.Fatal(e)
		}
		k.refused(0, api.ErrFailed)
		k.over()
	}
}

func TestReadWhereSomethingIsLentAndTheRingIsFull(t *testing.T) { // P4.2: head and status are written ahead of Add, whose ErrFull is ahead of its ErrLent
	for byte, want := range map[int]api.Errno{0: api.ErrFailed, 8: api.ErrFailed, 16: api.ErrFull, 1039: api.ErrFull, 1040: api.ErrFailed} {
		k := fresh(t, 2, 1, 8)
		if e := k.m.Lend(span(uint32(k.pool+byte), 1)); e != api.OK {
			t.Fatal(e)
		}
		for range 2 {
			k.refused(0, want)
		}
		if k.Failed() != (want == api.ErrFailed) {
			t.Errorf("with byte %d lent: it has failed: %v", byte, k.Failed())
		}
	}
}

func TestReadFailsWhileOthersWait(t *testing.T) { // P4.2, P4.3: Poll of a disk that has failed already tells that alone
	k := fresh(t, 16, 3, 8)
	k.asked(1, 1)
	if e := k.m.Lend(span(uint32(k.pool+1041), 1)); e != api.OK {
		t.Fatal(e)
	}
	k.refused(2, api.ErrFailed)
	k.bring(0, block(1))
	k.waiting(1, 1)
	k.over()
}

func TestReadOfABrokenRing(t *testing.T) { // P4.2: of ErrRing the disk has failed
	k := fresh(t, 16, 2, 8)
	k.index(1)
	k.asked(0, 1) // the ring is broken once it is polled
	k.index(2)
	if _, is, e := k.Ring().Poll(); is || e != api.ErrRing {
		t.Fatal(is, e)
	}
	if k.Failed() {
		t.Error("nobody told the disk")
	}
	k.refused(8, api.ErrArg)
	k.refused(1, api.ErrFailed)
	k.over()
}

func TestReadFullAheadOfBroken(t *testing.T) { // P4.2: ErrFull of the pool stands ahead of the ring's errors
	k := fresh(t, 16, 1, 8)
	k.asked(0, 1)
	k.index(2)
	k.Ring().Poll()
	k.refused(1, api.ErrFull)
	if k.Failed() {
		t.Error("it has failed")
	}
	k.told(api.ErrFailed, bad(1, 0))
	k.over()
}
