package vnet_test

import (
	"strings"
	"testing"

	"pharos/api"
)

func TestRecv(t *testing.T) { // P3.3: the document's example
	k := fresh(t, 2, 2, 128)
	k.told(api.OK)
	k.bring(0, head+frame(60), 72)
	k.told(api.OK, frame(60))
	k.told(api.OK)
	k.bring(1, head+frame(60), 20)
	k.told(api.OK)
	k.lost(1, 0)
	k.bring(0, "\x00\x01"+head[2:]+frame(60), 72)
	k.told(api.OK)
	k.lost(2, 0)
	k.whole()
}

func TestRecvLengths(t *testing.T) { // P3.3: from NetHead and MinFrame to NetHead and MaxFrame; never beyond the buffer
	for _, buf := range []int{64, 65, 128, 1525, 1526, 1527, 2047, 2048} {
		for _, n := range []int{0, 1, 11, 12, 13, 25, 26, 27, 63, 64, 65, 127, 128, 1524, 1525, 1526, 1527, 2046, 2047, 2048} {
			if n > buf {
				continue // of these the ring is broken
			}
			for _, rings := range []int{1, 64} {
				k := fresh(t, rings, 1, buf)
				k.bring(rings-1, head+frame(buf-12), n)
				if n >= 26 && n <= 1526 {
					k.told(api.OK, frame(buf - 12)[:n-12])
					k.lost(0, 0)
				} else {
					k.told(api.OK)
					k.lost(1, 0)
				}
				k.whole()
			}
		}
	}
}

func TestRecvEveryLength(t *testing.T) { // P3.3
	k := fresh(t, 1, 1, 2048)
	lost := 0
	for n := range 2049 {
		k.bring(0, head+frame(2036), n)
		if n < 26 || n > 1526 {
			lost++
			k.told(api.OK)
		} else {
			k.told(api.OK, frame(2036)[:n-12])
		}
		k.lost(lost, 0)
	}
	k.whole()
}

func TestRecvHeads(t *testing.T) { // P3.3: flags, kind and the number of buffers count, the 8 bytes between do not
	for at := range 12 {
		for x := range 256 {
			k := fresh(t, 2, 2, 128)
			s := head[:at] + string([]byte{byte(x)}) + head[at+1:]
			k.bring(0, s+frame(60), 72)
			if at >= 2 && at < 10 || s == head {
				k.told(api.OK, frame(60))
				k.lost(0, 0)
			} else {
				k.told(api.OK)
				k.lost(1, 0)
			}
			k.whole()
		}
	}
	k := fresh(t, 1, 1, 64)
	k.bring(0, "\x00\x00\xff\xff\xff\xff\xff\xff\xff\xff\x01\x00"+frame(14), 26)
	k.told(api.OK, frame(14))
	k.bring(0, zeros(12)+frame(14), 26)
	k.told(api.OK)
	k.lost(1, 0)
}

func TestRecvOrder(t *testing.T) { // P3.3, P3.6: in the order in which the device used them, with what is lost between
	k := fresh(t, 8, 1, 128)
	for i, h := range []int{5, 0, 7, 2} {
		k.bring(h, head+frame(20+i), 32+i)
	}
	k.bring(1, head+frame(20), 25)
	k.bring(3, head+frame(30), 42)
	k.bring(4, "\x01"+head[1:]+frame(30), 42)
	k.bring(6, head+frame(31), 43)
	k.told(api.OK, frame(20), frame(21), frame(22), frame(23), frame(30), frame(31))
	k.lost(2, 0)
	k.whole()
	k.told(api.OK)
	k.lost(2, 0)
}

func TestRecvAddsAgain(t *testing.T) { // P3.3: the buffer is made available again, by the head that it had
	k := fresh(t, 4, 1, 64)
	for i, h := range []int{2, 2, 0, 3, 1, 2} {
		k.bring(h, head+frame(20), 32)
		k.told(api.OK, frame(20))
		index := 4 + i
		at := int(k.Rx().Avail())
		if s := k.read(at+2, 2); s != low(uint64(index+1), 2) {
			t.Fatalf("the available part's index is %q, want %d", s, index+1)
		}
		if s := k.read(at+4+2*(index%4), 2); s != low(uint64(h), 2) {
			t.Fatalf("available is %q, want %d", s, h)
		}
		want := low(uint64(k.come+h*64), 8) + low(64, 4) + "\x02\x00\x00\x00"
		if s := k.read(k.in+16*h, 16); s != want {
			t.Fatalf("descriptor %d is %q, want %q", h, s, want)
		}
		k.whole()
	}
}

func TestRecvGoesRound(t *testing.T) { // P3.3: indexes that go round at 65,536
	for _, rings := range []int{1, 4} {
		k := fresh(t, rings, 1, 64)
		for i := range 66_000 {
			n := 14 + i%39
			k.bring(i*7%rings, head+frame(n), 12+n)
			if i%4 == 1 && rings > 1 {
				continue // two come ahead of the next call
			}
			want := []string{frame(n)}
			if i%4 == 2 && rings > 1 {
				want = []string{frame(14 + (i-1)%39), frame(n)}
			}
			k.told(api.OK, want...)
		}
		k.lost(0, 0)
		k.whole()
	}
}

func TestRecvTooLong(t *testing.T) { // P3.3: more bytes than the buffer has
	for _, n := range []int{65, 66, 1526, 1 << 16, 1 << 31, 1<<32 - 1} {
		k := fresh(t, 4, 1, 64)
		k.bring(1, head+frame(30), 42)
		k.bring(2, head+frame(31), n)
		k.bring(3, head+frame(32), 44)
		k.told(api.ErrRing, frame(30)) // what came ahead of it is told
		k.told(api.ErrRing)
		k.lost(0, 0)
		k.whole()
	}
}

func TestRecvIndexes(t *testing.T) { // P3.3: an index that is too far on
	for _, x := range []int{5, 6, 64, 255, 256, 1 << 15, 65535} {
		k := fresh(t, 4, 1, 64)
		for h := range 4 {
			k.bring(h, head+frame(30), 42)
		}
		k.index(k.Rx(), x)
		for range 3 {
			k.told(api.ErrRing)
			k.whole()
		}
		k.lost(0, 0)
		k.index(k.Rx(), 4)
		k.told(api.ErrRing) // for ever
	}
	k := fresh(t, 4, 1, 64) // back
	k.bring(0, head+frame(30), 42)
	k.told(api.OK, frame(30))
	k.index(k.Rx(), 0)
	k.told(api.ErrRing)
	k.whole()
}

func TestRecvHeadsOfNoChain(t *testing.T) { // P3.3
	for _, h := range []uint32{4, 5, 255, 65535, 65536, 1 << 31, 1<<32 - 1} {
		k := fresh(t, 4, 1, 64)
		k.bring(3, head+frame(30), 42)
		k.bring(0, head+frame(31), 11)
		k.entry(k.Rx(), 4, 2, h, 42)
		k.index(k.Rx(), 3)
		k.told(api.ErrRing, frame(30))
		k.lost(1, 0)
		k.whole()
		k.told(api.ErrRing)
		k.lost(1, 0)
	}
}

func TestRecvTheSameTwice(t *testing.T) { // P3.3: each time the buffer was Added again, so that it waits
	k := fresh(t, 2, 1, 64)
	k.put(0, head+frame(30))
	k.entry(k.Rx(), 2, 0, 0, 42)
	k.entry(k.Rx(), 2, 1, 0, 40)
	k.index(k.Rx(), 2)
	k.told(api.OK, frame(30), frame(30)[:28])
	k.whole()
	k.lost(0, 0)
}

func TestRecvWholeWhateverComes(t *testing.T) { // P3.6: whatever stands in the used part, at whatever index
	for seed := range 3000 {
		k := fresh(t, 4, 1, 64)
		for h := range 4 {
			k.put(h, strings.Repeat(string([]byte{byte(seed), byte(h)}), 32))
		}
		x := uint32(seed) * 2654435761
		for i := range 4 {
			x = x*1664525 + 1013904223
			k.entry(k.Rx(), 4, i, x>>29, x>>8%80)
		}
		k.index(k.Rx(), int(x>>20%6))
		l, e := k.Recv()
		if len(l) > 4 || e != api.OK && e != api.ErrRing || (e == api.ErrRing) != k.Rx().Broken() {
			t.Fatalf("Recv: %q %v", l, e)
		}
		k.whole()
	}
}

func TestRecvKeepsFrames(t *testing.T) { // R5: frames are what they were, whatever the device writes then
	k := fresh(t, 1, 1, 64)
	k.bring(0, head+frame(30), 42)
	l, _ := k.Recv()
	k.put(0, strings.Repeat("x", 64))
	if len(l) != 1 || l[0] != frame(30) {
		t.Errorf("%q", l)
	}
}

func TestRecvStaleBytes(t *testing.T) { // P3.3: what the device did not write now is not told
	k := fresh(t, 1, 1, 64)
	k.bring(0, head+frame(52), 64)
	k.told(api.OK, frame(52))
	k.bring(0, head+frame(20), 32)
	k.told(api.OK, frame(20))
	k.bring(0, head, 12)
	k.told(api.OK)
	k.lost(1, 0)
}

func TestRecvIsApartFromSend(t *testing.T) { // P3.3: the second ring is not polled, nor asked whether it is broken
	k := fresh(t, 2, 2, 64)
	k.sent(frame(14), api.OK)
	k.index(k.Tx(), 9)
	k.bring(0, head+frame(14), 26)
	k.told(api.OK, frame(14))
	if k.Tx().Broken() {
		t.Error("the second ring was polled")
	}
	k.sent(frame(14), api.ErrRing)
	k.bring(1, head+frame(15), 27)
	k.told(api.OK, frame(15))
	k.whole()
}

func TestRecvPastWhatIsNotItsOwn(t *testing.T) { // R1: somebody else took a buffer out of the ring, and put another one there
	k := fresh(t, 1, 1, 64)
	k.bring(0, head+frame(14), 26)
	if d, is, e := k.Rx().Poll(); !is || e != api.OK || d.Len != 26 {
		t.Fatal(d, is, e)
	}
	all := api.Buf{At: uint32(k.come), Len: 128, In: true} // both pools
	if _, e := k.Rx().Add([]api.Buf{all}); e != api.OK {
		t.Fatal(e)
	}
	k.bring(0, strings.Repeat(head, 10), 120)
	k.told(api.OK)
	k.told(api.OK)
	k.whole()
}

func TestRecvWhereNothingCanBeAdded(t *testing.T) { // P3.6, R1: somebody lent the table; no buffer gets lost by it
	k := fresh(t, 2, 1, 64)
	k.bring(0, head+frame(14), 26)
	k.bring(1, head+frame(15), 27)
	if e := k.m.Lend(span(uint32(k.in), 32)); e != api.OK {
		t.Fatal(e)
	}
	k.told(api.OK, frame(14), frame(15))
	if k.Rx().Waits() != 0 {
		t.Error("something was Added")
	}
	if e := k.m.Back(span(uint32(k.in), 32)); e != api.OK {
		t.Fatal(e)
	}
	k.told(api.OK)
	k.lost(0, 0)
	k.whole()
}

func TestRecvBesideOthersChains(t *testing.T) { // P3.3: a chain that is somebody else's brings no frame, and loses none
	k := fresh(t, 2, 1, 64)
	k.bring(1, head+frame(14), 26)
	if e := k.m.Lend(span(uint32(k.in), 32)); e != api.OK { // so that it is not Added again
		t.Fatal(e)
	}
	k.told(api.OK, frame(14))
	if e := k.m.Back(span(uint32(k.in), 32)); e != api.OK {
		t.Fatal(e)
	}
	if h, e := k.Rx().Add([]api.Buf{{At: uint32(k.goes), Len: 64, In: true}}); h != 1 || e != api.OK {
		t.Fatal(h, e)
	}
	k.bring(1, head+frame(15), 27)
	k.told(api.OK)
	k.lost(0, 0)
	k.told(api.OK)
	k.whole()
}
