package vnet_test

import (
	"math"
	"slices"
	"strings"
	"testing"

	"pharos/api"
)

// waits fails unless so many chains wait in the second ring.
func (k *card) waits(n int) {
	k.t.Helper()
	if k.Tx().Waits() != n || k.Tx().Left() != k.c.Tx-n {
		k.t.Fatalf("%d wait, %d are left, want %d of %d", k.Tx().Waits(), k.Tx().Left(), n, k.c.Tx)
	}
}

// all is what can be seen of a card and its memory, but what was lost and whether a ring is broken.
func (k *card) all() []string {
	l := []string{k.read(0, k.m.Size())}
	for _, s := range k.m.Lent() {
		l = append(l, low(uint64(s.At), 4)+low(uint64(s.Len), 4))
	}
	return append(l, low(uint64(k.Rx().Waits()), 2)+low(uint64(k.Tx().Waits()), 2))
}

func TestSend(t *testing.T) { // P3.4: the document's example
	k := fresh(t, 2, 2, 128)
	k.sent(frame(60), api.OK)
	k.sent(frame(61), api.OK)
	k.lost(0, 0)
	k.sent(frame(62), api.ErrFull)
	k.lost(0, 1)
	k.sent(frame(62), api.ErrFull)
	k.lost(0, 2)
	if s := k.take(0); s != zeros(12)+frame(60) {
		t.Errorf("%q", s)
	}
	k.waits(2) // till the next call polls
	k.sent(frame(62), api.OK)
	k.waits(2)
	k.sent(frame(63), api.ErrFull)
	k.lost(0, 3)
	if a, b := k.take(1), k.take(0); a != zeros(12)+frame(61) || b != zeros(12)+frame(62) {
		t.Errorf("%q %q", a, b)
	}
	k.whole()
}

func TestSendLengths(t *testing.T) { // P3.4: from MinFrame to MaxFrame, and to Buf less NetHead
	for _, buf := range []int{64, 65, 128, 1525, 1526, 1527, 2047, 2048} {
		most := min(1514, buf-12)
		for _, n := range []int{0, 1, 13, 14, 15, buf - 13, buf - 12, buf - 11, buf, 1513, 1514, 1515, 2036, 2037, 4096} {
			for _, rings := range []int{1, 64} {
				k := fresh(t, 1, rings, buf)
				before := k.all()
				switch {
				case n < 14:
					k.sent(frame(n), api.ErrArg)
				case n > most:
					k.sent(frame(n), api.ErrLong)
				default:
					k.sent(frame(n), api.OK)
					k.waits(1)
					if s := k.take(0); s != zeros(12)+frame(n) {
						t.Fatalf("%d bytes out of %d: %q", n, buf, s)
					}
					continue
				}
				k.lost(0, 0)
				if !slices.Equal(k.all(), before) {
					t.Fatalf("Send of %d bytes, refused, changes something", n)
				}
			}
		}
	}
}

func TestSendWrites(t *testing.T) { // P3.4: what stands where, and what the device is told
	k := fresh(t, 1, 4, 100)
	for i := range 4 {
		k.sent(frame(14+i), api.OK)
		place := k.goes + 100*i
		if s := k.read(place, 100); s != zeros(12)+frame(14+i)+strings.Repeat("m", 74-i) {
			t.Fatalf("buffer %d: %q", i, s)
		}
		want := low(uint64(place), 8) + low(uint64(26+i), 4) + "\x00\x00\x00\x00"
		if s := k.read(k.out+16*i, 16); s != want {
			t.Fatalf("descriptor %d: %q", i, s)
		}
		at := int(k.Tx().Avail())
		if s := k.read(at+2, 2) + k.read(at+4+2*i, 2); s != low(uint64(i+1), 2)+low(uint64(i), 2) {
			t.Fatalf("available: %q", s)
		}
		if l, e := k.Tx().Chain(uint16(i)); e != api.OK || !slices.Equal(l, []api.Buf{{At: uint32(place), Len: uint32(26 + i)}}) {
			t.Fatalf("chain %d: %v %v", i, l, e)
		}
	}
	k.whole() // nothing of it is lent
}

func TestSendOldBytes(t *testing.T) { // P3.4: the head is 0, whatever stood there
	k := fresh(t, 1, 1, 64)
	for n := 52; n >= 14; n-- {
		k.sent(frame(n), api.OK)
		if s := k.take(0); s != zeros(12)+frame(n) {
			t.Fatalf("%d bytes: %q", n, s)
		}
	}
}

func TestSendTakesTheFirstFree(t *testing.T) { // P3.4: buffers whose chains were used are Put back, all of them
	k := fresh(t, 1, 4, 64)
	for i := range 4 {
		k.sent(frame(20+i), api.OK)
	}
	k.take(2)
	k.take(1)
	k.take(3)
	k.sent(frame(30), api.OK)
	k.waits(2)
	if l, e := k.Tx().Chain(1); e != api.OK || int(l[0].At) != k.goes+64 {
		t.Errorf("the buffer at %v is taken, from %d on: %v", l, k.goes, e)
	}
	k.sent(frame(31), api.OK)
	k.sent(frame(32), api.OK)
	k.sent(frame(33), api.ErrFull)
	k.lost(0, 1)
	for h, n := range []int{20, 30, 31, 32} {
		if s := k.take(h); s != zeros(12)+frame(n) {
			t.Errorf("chain %d: %q", h, s)
		}
	}
	k.sent(frame(40), api.OK)
	k.waits(1)
}

func TestSendGoesRound(t *testing.T) { // P3.4, P3.6: indexes that go round at 65,536; all in order
	for _, rings := range []int{1, 4} {
		k := fresh(t, 1, rings, 64)
		for i := range 66_000 {
			n := 14 + i%39
			k.sent(frame(n), api.OK)
			at := int(k.Tx().Avail())
			h := k.read(at+4+2*(i%rings), 2)
			if s := k.take(int(h[0])); s != zeros(12)+frame(n) || k.read(at+2, 2) != low(uint64(i+1), 2) {
				t.Fatalf("frame %d: %q", i, s)
			}
		}
		k.lost(0, 0)
	}
}

func TestSendBroken(t *testing.T) { // P3.4: a ring that is broken is told, ahead of ErrFull; that is none that was lost
	for _, c := range []struct {
		x    int
		head uint32
		n    uint32
	}{
		{3, 0, 0}, {4, 0, 0}, {65535, 0, 0}, {1 << 15, 0, 0}, // indexes
		{1, 2, 0}, {1, 65536, 0}, {1, math.MaxUint32, 0}, // heads
		{1, 0, 1}, {1, 1, 72}, {1, 0, math.MaxUint32}, // the device writes nothing there
	} {
		k := fresh(t, 1, 2, 128)
		k.sent(frame(60), api.OK)
		k.sent(frame(61), api.OK)
		k.sent(frame(62), api.ErrFull)
		k.entry(k.Tx(), 2, 0, c.head, c.n)
		k.index(k.Tx(), c.x)
		before := k.all()
		for range 3 {
			k.sent(frame(13), api.ErrArg) // ahead of it
			k.sent(frame(117), api.ErrLong)
			k.sent(frame(62), api.ErrRing)
		}
		k.lost(0, 1)
		if !slices.Equal(k.all(), before) || !k.Tx().Broken() {
			t.Errorf("%v: a broken ring changes something, or is not broken", c)
		}
		k.index(k.Tx(), 0)
		k.sent(frame(62), api.ErrRing) // for ever
		k.bring(0, head+frame(14), 26)
		k.told(api.OK, frame(14)) // the other ring goes on
		k.whole()
	}
}

func TestSendIsNotPolledAhead(t *testing.T) { // P3.4: a frame that may not be is told ahead of polling
	k := fresh(t, 1, 2, 64)
	k.index(k.Tx(), 1)
	for _, s := range []string{"", frame(13)} {
		k.sent(s, api.ErrArg)
	}
	k.sent(frame(53), api.ErrLong)
	if k.Tx().Broken() {
		t.Error("it was polled")
	}
	k.sent(frame(52), api.ErrRing)
}

func TestSendTheSameTwice(t *testing.T) { // P3.4: a chain that was used does not wait any more
	k := fresh(t, 1, 2, 64)
	k.sent(frame(20), api.OK)
	k.sent(frame(21), api.OK)
	k.entry(k.Tx(), 2, 0, 1, 0)
	k.entry(k.Tx(), 2, 1, 1, 0)
	k.index(k.Tx(), 2)
	k.sent(frame(22), api.ErrRing)
	k.waits(1)
	if l, e := k.Tx().Chain(0); e != api.OK || k.read(int(l[0].At), int(l[0].Len)) != zeros(12)+frame(20) {
		t.Error("what waits is another one", l, e)
	}
	k.lost(0, 0)
}

func TestSendWhereTheRingIsFull(t *testing.T) { // P3.4: Add's error is told, the buffer is Put back, one is lost
	k := fresh(t, 1, 2, 64)
	for h := range uint16(2) { // somebody else's chains
		if got, e := k.Tx().Add([]api.Buf{{At: 0, Len: 1}}); got != h || e != api.OK {
			t.Fatal(got, e)
		}
	}
	for i := range 5 { // more often than there are buffers
		k.sent(frame(20), api.ErrFull)
		k.lost(0, i+1)
	}
	k.take(0)
	k.take(1)
	k.sent(frame(21), api.OK)
	k.sent(frame(22), api.OK)
	k.lost(0, 5)
	k.sent(frame(23), api.ErrFull)
	if a, b := k.take(0), k.take(1); a != zeros(12)+frame(21) || b != zeros(12)+frame(22) {
		t.Errorf("%q %q", a, b)
	}
}

func TestSendBesideOthersChains(t *testing.T) { // P3.4: of a chain that is somebody else's nothing is Put back
	k := fresh(t, 1, 4, 64)
	k.sent(frame(20), api.OK)
	if h, e := k.Tx().Add([]api.Buf{{At: uint32(k.goes), Len: 26}}); h != 1 || e != api.OK { // over the first buffer
		t.Fatal(h, e)
	}
	k.take(1)
	k.sent(frame(21), api.OK)
	if s := k.read(k.goes, 32); s != zeros(12)+frame(20) {
		t.Errorf("a buffer that waits is written: %q", s)
	}
	k.lost(0, 0)
}

func TestSendBesideAHeadThatWasItsOwn(t *testing.T) { // P3.4: a head that was the card's, and is somebody else's by now
	k := fresh(t, 1, 4, 64)
	k.sent(frame(20), api.OK)
	k.sent(frame(21), api.OK)
	k.take(0)
	k.take(1)
	k.sent(frame(22), api.OK)
	if h, e := k.Tx().Add([]api.Buf{{At: 0, Len: 1}}); h != 1 || e != api.OK {
		t.Fatal(h, e)
	}
	k.sent(frame(23), api.OK) // out of the second buffer
	k.take(1)
	k.sent(frame(24), api.OK)
	k.sent(frame(25), api.OK)
	if s := k.read(k.goes+64, 35); s != zeros(12)+frame(23) {
		t.Errorf("a buffer that waits is written: %q", s)
	}
	k.lost(0, 0)
}

func TestSendWhereSomethingIsLent(t *testing.T) { // P3.4: the table, the available part, or the buffer
	k := fresh(t, 1, 2, 64)
	for _, s := range []uint32{uint32(k.out), uint32(k.out) + 31, k.Tx().Avail() + 2, k.Tx().Avail() + 4, uint32(k.goes), uint32(k.goes) + 31} {
		k = fresh(t, 1, 2, 64)
		if e := k.m.Lend(span(s, 1)); e != api.OK {
			t.Fatal(e)
		}
		if s == uint32(k.out)+31 { // of the second descriptor
			k.sent(frame(20), api.OK)
			k.take(0)
			k.sent(frame(20), api.OK)
			_, e := k.Tx().Add([]api.Buf{{At: 0, Len: 1}})
			if e != api.ErrLent {
				t.Fatal(e)
			}
			k.sent(frame(20), api.ErrLent)
			k.lost(0, 1)
			continue
		}
		for i := range 5 {
			k.sent(frame(20), api.ErrLent)
			k.lost(0, i+1)
			k.waits(0)
		}
		if e := k.m.Back(span(s, 1)); e != api.OK {
			t.Fatal(e)
		}
		k.sent(frame(21), api.OK)
		k.sent(frame(22), api.OK)
		k.lost(0, 5)
		if a, b := k.take(0), k.take(1); a != zeros(12)+frame(21) || b != zeros(12)+frame(22) {
			t.Errorf("%d lent: %q %q", s, a, b)
		}
	}
}

func TestSendIsApartFromRecv(t *testing.T) { // P3.4: the first ring is not polled, nor asked whether it is broken
	k := fresh(t, 2, 2, 64)
	k.index(k.Rx(), 9)
	k.sent(frame(14), api.OK)
	if k.Rx().Broken() {
		t.Error("the first ring was polled")
	}
	k.told(api.ErrRing)
	k.sent(frame(15), api.OK)
	k.lost(0, 0)
}

func TestWhatIsSentStays(t *testing.T) { // P3.6: the device can't change what goes, nor can what is sent next
	k := fresh(t, 1, 2, 64)
	k.sent(frame(20), api.OK)
	before := k.read(k.goes, 64)
	for at := k.goes; at < k.goes+128; at++ {
		if e := k.m.Device(uint32(at), "x"); e != api.ErrKept {
			t.Fatalf("the device writes at %d: %v", at, e)
		}
	}
	k.sent(frame(21), api.OK)
	k.sent(frame(22), api.ErrFull)
	if k.read(k.goes, 64) != before {
		t.Error("what waits is written again")
	}
}
