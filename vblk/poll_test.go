package vblk_test

import (
	"math"
	"slices"
	"testing"

	"pharos/api"
)

func TestPoll(t *testing.T) { // P4.3: ordinary answers; nothing is told twice
	k := fresh(t, 16, 5, 8)
	k.told(api.OK)
	for i := range 5 {
		k.asked(uint32(7-i), uint32(i+1))
	}
	k.told(api.OK)
	k.bring(9, block(4))
	k.bring(0, block(7))
	k.bring(12, block(3))
	k.waiting(5, 5) // till Poll
	k.told(api.OK, good(4, 4, block(4)), good(1, 7, block(7)), good(5, 3, block(3)))
	k.waiting(2, 2)
	k.told(api.OK)
	k.bring(6, block(5))
	k.bring(3, block(6))
	k.told(api.OK, good(3, 5, block(5)), good(2, 6, block(6)))
	k.told(api.OK)
	k.waiting(0, 0)
	if k.Failed() || k.Ring().Broken() || len(k.m.Lent()) != 1 {
		t.Error("it has failed, or something is lent yet:", k.m.Lent())
	}
}

func TestPollSameBlock(t *testing.T) { // P4.5: each request has an answer of its own, by the buffer of its own
	k := fresh(t, 16, 3, 8)
	for i := range 3 {
		k.asked(2, uint32(i+1))
	}
	k.bring(3, block(200))
	k.bring(6, block(300))
	k.bring(0, block(100))
	k.told(api.OK, good(2, 2, block(200)), good(3, 2, block(300)), good(1, 2, block(100)))
}

func TestPollBytes(t *testing.T) { // P4.3: all bytes of the data and no others, whatever they are
	for _, x := range []byte{0, 1, 0x7f, 0x80, 0xff, '\n'} {
		data := string(slices.Repeat([]byte{x}, 1024))
		k := fresh(t, 4, 1, 8)
		k.asked(0, 1)
		k.bring(0, data)
		k.told(api.OK, good(1, 0, data))
	}
	k := fresh(t, 4, 1, 8) // what the device does not write stays as it was
	k.asked(0, 1)
	k.bring(0, "abc")
	k.told(api.OK, good(1, 0, "abc"+string(slices.Repeat([]byte{'m'}, 1021))))
	k.asked(1, 2)
	k.bring(0, "x")
	k.told(api.OK, good(2, 1, "xbc"+string(slices.Repeat([]byte{'m'}, 1021))))
}

func TestPollStatus(t *testing.T) { // P4.3: 0 alone; 255, which the device did not write over, is another
	for x := range 256 {
		k := fresh(t, 4, 1, 8)
		k.asked(5, 1)
		k.use(0, block(5), string([]byte{byte(x)}), 1025)
		if x == 0 {
			k.told(api.OK, good(1, 5, block(5)))
			if k.Failed() {
				t.Error("it has failed")
			}
			continue
		}
		k.told(api.ErrFailed, bad(1, 5))
		k.waiting(0, 0)
		k.over()
	}
	k := fresh(t, 4, 1, 8)
	for i := range 2 { // the status of the answer before counts for nothing
		k.asked(5, uint32(i+1))
		k.use(0, block(5), "\x00"[:1-i], 1025)
		if i == 0 {
			k.told(api.OK, good(1, 5, block(5)))
		}
	}
	k.told(api.ErrFailed, bad(2, 5))
	k.over()
}

func TestPollLengths(t *testing.T) { // P4.3: BlockSize and 1 alone; one more breaks the ring: the request is answered all the same
	for _, n := range []uint32{0, 1, 2, 16, 512, 1023, 1024, 1025, 1026, 1040, 1041, 1042, 2048, 1025 + 1<<16, 1 << 31, math.MaxUint32} {
		k := fresh(t, 4, 1, 8)
		k.asked(5, 1)
		k.use(0, block(5), "\x00", n)
		if n == 1025 {
			k.told(api.OK, good(1, 5, block(5)))
			continue
		}
		k.told(api.ErrFailed, bad(1, 5))
		if n > 1025 {
			k.waiting(0, 1)
		} else {
			k.waiting(0, 0)
		}
		if k.Ring().Broken() != (n > 1025) {
			t.Errorf("length %d: the ring is broken: %v", n, k.Ring().Broken())
		}
		k.over()
	}
}

func TestPollEveryLength(t *testing.T) { // P4.3
	for n := range 1025 {
		k := fresh(t, 4, 1, 8)
		k.asked(5, 1)
		k.use(0, block(5), "\x00", uint32(n))
		k.told(api.ErrFailed, bad(1, 5))
		k.over()
	}
}

func TestPollFailsBetween(t *testing.T) { // P4.3, P4.5: what came ahead is told; behind it nothing is believed, all others fail by rising numbers
	for _, c := range []struct {
		status string
		n      uint32
	}{{"\x01", 1025}, {"\x02", 1025}, {"\xff", 1025}, {"\x00", 1024}, {"\x00", 0}, {"\x00", 1026}} {
		k := fresh(t, 32, 8, 8)
		for i := range 8 {
			k.asked(uint32(7-i), uint32(i+1))
		}
		k.bring(15, block(2)) // 6
		k.bring(3, block(6))  // 2
		k.use(12, block(3), c.status, c.n)
		k.bring(0, block(7)) // 1: too late
		k.bring(21, block(0))
		want := []api.Block{good(6, 2, block(2)), good(2, 6, block(6)), bad(5, 3), bad(1, 7), bad(3, 5), bad(4, 4), bad(7, 1), bad(8, 0)}
		chains := 5
		if c.n > 1025 { // a chain that the ring does not tell is one of those that wait
			want = []api.Block{good(6, 2, block(2)), good(2, 6, block(6)), bad(1, 7), bad(3, 5), bad(4, 4), bad(5, 3), bad(7, 1), bad(8, 0)}
			chains = 6
		}
		k.told(api.ErrFailed, want...)
		k.waiting(0, chains) // nothing more was polled
		k.over()
		k.waiting(0, chains)
	}
}

func TestPollRisingNumbers(t *testing.T) { // P4.3: not by heads, nor by places
	k := fresh(t, 128, 32, 99)
	for i := range 32 {
		k.asked(uint32(i), uint32(i+1))
	}
	var want []api.Block
	for i := range 16 { // every other one is answered, and asked for anew: its head is a low one again
		k.bring(6*i, block(i))
		want = append(want, good(uint32(2*i+1), uint32(2*i), block(i)))
	}
	k.told(api.OK, want...)
	for i := range 16 {
		k.asked(uint32(98-i), uint32(33+i))
	}
	want = nil
	for i := range 16 {
		want = append(want, bad(uint32(2*i+2), uint32(2*i+1)))
	}
	for i := range 16 {
		want = append(want, bad(uint32(33+i), uint32(98-i)))
	}
	k.index(16 + 33) // too far on
	k.told(api.ErrFailed, want...)
	k.waiting(0, 32)
	k.over()
}

func TestPollBroken(t *testing.T) { // P4.3: whatever the ring refuses
	for _, c := range []struct {
		x       int
		head, n uint32
	}{
		{3, 0, 1025}, {4, 0, 1025}, {1 << 15, 0, 1025}, {65535, 0, 1025}, // indexes that are too far on, or go back
		{1, 1, 1025}, {1, 2, 1025}, {1, 4, 1025}, {1, 6, 1025}, {1, 16, 1025}, // heads that do not wait
		{1, 65536, 1025}, {1, 1 << 31, 1025}, {1, math.MaxUint32, 1025},
		{1, 0, 1026}, {1, 3, 1041}, {1, 0, math.MaxUint32}, {1, 3, 1025 + 1<<16}, // lengths
	} {
		k := fresh(t, 16, 4, 8)
		k.asked(7, 1)
		k.asked(2, 2)
		k.entry(0, c.head, c.n)
		k.index(c.x)
		k.told(api.ErrFailed, bad(1, 7), bad(2, 2))
		k.waiting(0, 2)
		if !k.Ring().Broken() {
			t.Errorf("%v: the ring is not broken", c)
		}
		k.over()
		k.index(0)
		k.over() // for ever
	}
}

func TestPollUsedTwice(t *testing.T) { // P4.5: a chain that is used twice is answered once
	k := fresh(t, 16, 4, 8)
	k.asked(7, 1)
	k.asked(2, 2)
	k.bring(0, block(7))
	k.entry(1, 0, 1025)
	k.index(2)
	k.told(api.ErrFailed, good(1, 7, block(7)), bad(2, 2))
	k.waiting(0, 1)
	k.over()

	k = fresh(t, 16, 4, 8) // in two calls
	k.asked(7, 1)
	k.asked(2, 2)
	k.bring(0, block(7))
	k.told(api.OK, good(1, 7, block(7)))
	k.entry(1, 0, 1025)
	k.index(2)
	k.told(api.ErrFailed, bad(2, 2))
	k.over()
}

func TestPollWithoutRequests(t *testing.T) { // P4.3: a device that answers what was not asked
	for _, x := range []int{1, 2, 4, 65535} {
		k := fresh(t, 4, 1, 8)
		k.index(x)
		k.told(api.ErrFailed)
		k.waiting(0, 0)
		k.over()
	}
}

func TestPollKeepsOthersBuffers(t *testing.T) { // P4.5, W3: what the device writes late, behind the failing, changes nothing that is told
	k := fresh(t, 16, 2, 8)
	k.asked(1, 1)
	k.asked(2, 2)
	late := k.chain(3)
	k.use(0, block(1), "\x01", 1025)
	k.told(api.ErrFailed, bad(1, 1), bad(2, 2))
	k.device(late[1].At, block(2))
	k.device(late[2].At, "\x00")
	k.entry(1, 3, 1025)
	k.index(2)
	k.over()
}

func TestPollAnswersAreNew(t *testing.T) { // R5: what was answered stays, whatever comes
	k := fresh(t, 16, 2, 8)
	k.asked(1, 1)
	k.bring(0, block(1))
	l, e := k.Poll()
	if e != api.OK || len(l) != 1 {
		t.Fatal(l, e)
	}
	k.asked(2, 2)
	k.bring(0, block(2))
	k.told(api.OK, good(2, 2, block(2)))
	if l[0] != good(1, 1, block(1)) {
		t.Error("an answer has changed")
	}
	l[0] = api.Block{}
	k.told(api.OK)
}

func TestPollPassesOthersChains(t *testing.T) { // P4.3: a chain that is none of the disk's answers nothing
	k := fresh(t, 16, 2, 8)
	k.asked(1, 1)
	if h, e := k.Ring().Add([]api.Buf{{At: uint32(k.pool), Len: 1}}); h != 3 || e != api.OK {
		t.Fatal(h, e)
	}
	k.entry(0, 3, 0)
	k.used = 1
	k.bring(0, block(1))
	k.told(api.OK, good(1, 1, block(1)))
	k.waiting(0, 0)
}

func TestRing(t *testing.T) { // P4.4
	k := fresh(t, 8, 2, 8)
	if k.Ring() == nil || k.Ring() != k.Ring() || k.Ring().Left() != 8 {
		t.Error("the ring is not the same each time, or another one")
	}
	r := k.Ring()
	k.asked(0, 1)
	k.index(2)
	k.told(api.ErrFailed, bad(1, 0))
	if k.Ring() != r || k.Waits() != 0 || !k.Failed() {
		t.Error("of a disk that has failed all is as it was but that nothing waits")
	}
}
