package cache_test

import (
	"strings"
	"testing"

	"pharos/api"
	"pharos/cache"
)

func TestPollNothing(t *testing.T) { // P16.3
	r := rigged(t, 2)
	r.polls(api.OK)
	r.refuses(api.ErrWait, 4)
	r.polls(api.OK)
	r.polls(api.OK)
	r.awaits(4)
	r.has()
}

func TestPollOrder(t *testing.T) { // P16.3: in the order in which the device brings them
	r := rigged(t, 4)
	r.refuses(api.ErrWait, 4, 5, 6, 7)
	for _, b := range []uint32{6, 4, 7} {
		r.brings(b, at(r.image, b))
	}
	r.has() // not ahead of Poll
	r.awaits(4, 5, 6, 7)
	r.polls(api.OK, ok(6), ok(4), ok(7))
	r.has(6, 4, 7)
	r.awaits(5)
	r.polls(api.OK)
	r.brings(5, at(r.image, 5))
	r.polls(api.OK, ok(5))
	r.has(6, 4, 7, 5)
	r.awaits()
}

func TestPollMost(t *testing.T) { // P16.3: the one whose use is longest ago goes, even if it came by the same Poll
	r := rigged(t, 2)
	r.refuses(api.ErrWait, 4, 5, 6)
	for _, b := range []uint32{5, 6, 4} {
		r.brings(b, at(r.image, b))
	}
	r.polls(api.OK, ok(5), ok(6), ok(4))
	r.has(6, 4)
	r.refuses(api.ErrWait, 5)
	r.gets(6)
	r.brings(5, at(r.image, 5))
	r.polls(api.OK, ok(5))
	r.has(6, 5)
	r.refuses(api.ErrWait, 4)
}

func TestPollGreatest(t *testing.T) { // P16.3: the limit: MaxCache blocks
	image := picture(t, 80)
	r := of(t, image, ready(t, image), conf(256, 32, 80), api.MaxCache)
	var want []uint32
	for b := uint32(4); b < 68; b++ {
		r.fill(b)
		want = append(want, b)
	}
	r.has(want...)
	r.fill(68)
	r.has(append(want[1:], 68)...)
	for b := uint32(5); b <= 68; b++ {
		r.gets(b)
	}
	r.refuses(api.ErrWait, 4)
}

func TestPollSum(t *testing.T) { // P16.3: bytes that are not the block's: told, not kept, and asked for anew
	r := rigged(t, 2)
	r.fill(2, 3)
	right := at(r.image, 4)
	for _, data := range []string{
		turned(right, 0), turned(right, 8*1024-1), turned(right, 4099), at(r.image, 5), at(r.image, 0),
		strings.Repeat("\x00", 1024), right[1:] + right[:1], right[:1023] + "\x00",
	} {
		r.refuses(api.ErrWait, 4)
		r.was(4)
		r.brings(4, data)
		r.polls(api.OK, not(4, api.ErrSum))
		r.has(2, 3)
		r.awaits()
		r.was()
	}
	r.fill(4)
	r.has(3, 4)
	r.gets(4)
}

func TestPollMixed(t *testing.T) { // P16.3: right and wrong ones, each for itself
	r := rigged(t, 4)
	r.refuses(api.ErrWait, 4, 5, 6, 7)
	r.brings(5, at(r.image, 4))
	r.brings(4, at(r.image, 4))
	r.brings(7, at(r.image, 6))
	r.brings(6, at(r.image, 6))
	r.polls(api.OK, not(5, api.ErrSum), ok(4), not(7, api.ErrSum), ok(6))
	r.has(4, 6)
	r.awaits()
}

func TestPollSameBytes(t *testing.T) { // P16.3: of two blocks of the same bytes each is its own
	image := built(t, strings.Repeat("x", 3000))
	r := of(t, image, ready(t, image), conf(16, 4, 7), 4)
	r.refuses(api.ErrWait, 4, 5)
	r.brings(5, at(image, 4))
	r.polls(api.OK, ok(5))
	r.has(5)
	r.awaits(4)
	r.was(4)
}

func TestPollFails(t *testing.T) { // P16.3: what came ahead of it stays; an answer's error is told; the disk's stands beside
	r := rigged(t, 4)
	r.refuses(api.ErrWait, 7, 6, 5, 4)
	r.brings(5, at(r.image, 5))
	r.brings(7, at(r.image, 6))
	r.fails(4)
	r.polls(api.ErrFailed, ok(5), not(7, api.ErrSum), not(4, api.ErrIO), not(6, api.ErrIO))
	r.has(5)
	r.awaits()
	r.polls(api.ErrFailed)
	r.gets(5)
}

func TestPollBroken(t *testing.T) { // P16.3: a device that does not keep to the rules: all that wait do not come, by their requests' order
	r := rigged(t, 4)
	r.fill(2)
	r.refuses(api.ErrWait, 7, 4, 6)
	r.write(r.Ring().Used()+2, "\x09\x00")
	r.polls(api.ErrFailed, not(7, api.ErrIO), not(4, api.ErrIO), not(6, api.ErrIO))
	r.awaits()
	r.has(2)
	r.refuses(api.ErrFailed, 7)
	r.gets(2)
}

func TestPollOthers(t *testing.T) { // P16.3: answers to requests that are somebody else's are neither told nor kept
	r := rigged(t, 4)
	for _, b := range []uint32{0, 5, 9} { // block 9 is waited for, too, by another request
		if _, e := r.Read(b); e != api.OK {
			t.Fatal(e)
		}
	}
	r.refuses(api.ErrWait, 9)
	r.was(0, 5, 9, 9)
	for _, b := range []uint32{5, 9, 0} {
		r.brings(b, at(r.image, b))
	}
	r.polls(api.OK)
	r.has()
	r.awaits(9)
	r.refuses(api.ErrWait, 9)
	r.was(9)
	r.brings(9, at(r.image, 9))
	r.polls(api.OK, ok(9))
	r.has(9)
}

func TestPollOthersFail(t *testing.T) { // P16.3: so are those with an error, but the disk's is told
	r := rigged(t, 4)
	r.Read(5)
	r.refuses(api.ErrWait, 6)
	r.Read(6)
	r.fails(5)
	r.polls(api.ErrFailed, not(6, api.ErrIO))
	r.awaits()
}

func TestPollByOthers(t *testing.T) { // P16.3, P16.4: an answer that somebody else polled: it is waited for still
	r := rigged(t, 4)
	r.refuses(api.ErrWait, 6, 7)
	r.brings(6, at(r.image, 6))
	if l, e := r.Disk.Poll(); len(l) != 1 || l[0].Block != 6 || e != api.OK {
		t.Fatal(l, e)
	}
	r.polls(api.OK)
	r.awaits(6, 7)
	r.refuses(api.ErrWait, 6)
	r.was(7)
	if _, e := r.Read(6); e != api.OK { // and an answer to another request is not its own
		t.Fatal(e)
	}
	r.brings(6, at(r.image, 6))
	r.brings(7, at(r.image, 7))
	r.polls(api.OK, ok(7))
	r.awaits(6)
	r.has(7)
}

func TestTwoCaches(t *testing.T) { // P16.2, P16.3: each has, and waits for, its own
	r := rigged(t, 2)
	other, e := cache.New(r.Disk, r.mount, 2)
	if e != api.OK {
		t.Fatal(e)
	}
	r.refuses(api.ErrWait, 4)
	if _, e := other.Get(4); e != api.ErrWait {
		t.Fatal(e)
	}
	r.was(4, 4)
	r.brings(4, at(r.image, 4))
	r.polls(api.OK, ok(4))
	r.awaits()
	if l := other.Waits(); len(l) != 1 || len(other.Has()) != 0 {
		t.Fatal(l, other.Has())
	}
	r.brings(4, at(r.image, 4))
	if l, e := other.Poll(); len(l) != 1 || l[0] != ok(4) || e != api.OK {
		t.Fatal(l, e)
	}
	r.has(4)
}

func TestWaitsRise(t *testing.T) { // P16.4: rising, in whatever order they were asked for
	image := picture(t, 80)
	r := of(t, image, ready(t, image), conf(256, 32, 80), 1)
	var want []uint32
	for k := range uint32(32) {
		r.refuses(api.ErrWait, 10+(k*21+5)%32)
		want = append(want, 10+k)
	}
	for range 5 {
		r.awaits(want...)
	}
	r.refuses(api.ErrFull, 9)
}

func TestDataStay(t *testing.T) { // P16.2: what was told does not change by what the device writes later into the same buffer
	r := rigged(t, 2)
	r.fill(4)
	before, _ := r.Get(4)
	r.fill(5)
	for b := range uint32(5) {
		r.fill(6 + b)
		r.refuses(api.ErrWait, 4)
		r.brings(4, strings.Repeat("z", 1024))
		r.polls(api.OK, not(4, api.ErrSum))
	}
	if before != at(r.image, 4) {
		t.Error("the bytes are others now")
	}
}
