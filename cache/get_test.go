package cache_test

import (
	"math"
	"testing"

	"pharos/api"
)

func TestExamples(t *testing.T) { // the chapter's, most 1
	r := rigged(t, 1)
	r.refuses(api.ErrWait, 4, 4)
	r.refuses(api.ErrNone, 0)
	r.brings(4, at(r.image, 4))
	r.polls(api.OK, ok(4))
	r.gets(4)
	r.refuses(api.ErrWait, 3)
	r.brings(3, at(r.image, 3))
	r.polls(api.OK, ok(3))
	r.has(3)
	r.refuses(api.ErrWait, 4)
	r.brings(4, at(r.image, 3))
	r.polls(api.OK, not(4, api.ErrSum))
	r.was()
	r.refuses(api.ErrWait, 4)
	r.was(4)
	r.has(3)
}

func TestGetNone(t *testing.T) { // P16.2: Sum's ErrNone: block 0, those of digests, those beyond the image
	blocks := 40 // more than 32 of which a block of digests tells
	image := picture(t, blocks)
	r := of(t, image, ready(t, image), conf(16, 4, api.MaxBlocks), 2)
	r.refuses(api.ErrNone, 0, 1, 2, 40, 41, 65535, 65536, math.MaxUint32)
	r.was()
	r.awaits()
	r.refuses(api.ErrWait, 3, 39)
	r.refuses(api.ErrNone, 0, 1, 2, 40)
	r.was(3, 39)
	r.awaits(3, 39)
}

func TestGetState(t *testing.T) { // P16.2: Sum's ErrState, till all digests are known; a mount need not be ready
	image := picture(t, 40)
	m := young(t, image)
	r := of(t, image, m, conf(16, 4, 40), 2)
	r.refuses(api.ErrState, 0, 1, 3, 39, 40)
	if e := m.Give(2, at(image, 2)); e != api.OK {
		t.Fatal(e)
	}
	r.refuses(api.ErrState, 0, 1, 3, 39, 40)
	r.was()
	if e := m.Give(1, at(image, 1)); e != api.OK || m.Ready() {
		t.Fatal(e)
	}
	r.refuses(api.ErrNone, 0, 1, 2, 40)
	r.fill(3, 39)
	r.gets(3)
	if m.Ready() {
		t.Fatal("the mount is ready")
	}
}

func TestGetHas(t *testing.T) { // P16.2: its bytes, as often as it is asked; nothing is asked of the disk for it
	r := rigged(t, 3)
	r.fill(2, 13, 7)
	for range 3 {
		r.gets(7)
		r.gets(2)
		r.gets(13)
	}
	r.was()
	r.awaits()
	r.polls(api.OK)
}

func TestGetUses(t *testing.T) { // P16.2, P16.4: the one that was used last is the last one
	r := rigged(t, 4)
	r.fill(4, 5, 6, 7)
	r.has(4, 5, 6, 7)
	for _, c := range []struct {
		block uint32
		want  []uint32
	}{
		{4, []uint32{5, 6, 7, 4}}, {6, []uint32{5, 7, 4, 6}}, {6, []uint32{5, 7, 4, 6}},
		{4, []uint32{5, 7, 6, 4}}, {5, []uint32{7, 6, 4, 5}}, {7, []uint32{6, 4, 5, 7}},
	} {
		r.gets(c.block)
		r.has(c.want...)
	}
	r.refuses(api.ErrNone, 0, 1, 14) // an ask that is refused, or waits, is no use
	r.refuses(api.ErrWait, 9, 9)
	r.has(6, 4, 5, 7)
	r.brings(9, at(r.image, 9))
	r.polls(api.OK, ok(9))
	r.has(4, 5, 7, 9)
}

func TestGetWaits(t *testing.T) { // P16.2: what is on its way is not asked for again, even if there is no room
	r := rigged(t, 1)
	r.refuses(api.ErrWait, 9, 3, 12, 5)
	for range 3 {
		r.refuses(api.ErrWait, 5, 12, 3, 9)
	}
	r.was(9, 3, 12, 5)
	r.awaits(3, 5, 9, 12)
	r.refuses(api.ErrFull, 4, 13)
	r.refuses(api.ErrWait, 3)
	r.awaits(3, 5, 9, 12)
}

func TestGetFull(t *testing.T) { // P16.2: the error of the disk's Read: no free buffer, no free descriptors: it does not wait for it
	for _, c := range []api.BlkConf{conf(16, 2, count), conf(8, 32, count)} {
		image := picture(t, count)
		r := of(t, image, ready(t, image), c, 4)
		r.refuses(api.ErrWait, 8, 2)
		r.refuses(api.ErrFull, 3, 3)
		r.refuses(api.ErrNone, 0) // ahead of it
		r.awaits(2, 8)
		r.was(8, 2)
		r.brings(2, at(image, 2))
		r.refuses(api.ErrFull, 3) // the buffer is taken till it is polled
		r.polls(api.OK, ok(2))
		r.gets(2)
		r.refuses(api.ErrWait, 3)
		r.awaits(3, 8)
		r.was(8, 3)
	}
}

func TestGetFullThoughItHas(t *testing.T) { // P16.2: what it has is told, whatever the disk would say
	r := rigged(t, 2)
	r.fill(2, 3)
	r.refuses(api.ErrWait, 4, 5, 6, 7)
	r.refuses(api.ErrFull, 8)
	r.gets(2)
	r.gets(3)
}

func TestGetArg(t *testing.T) { // P16.2: the error of the disk's Read: a disk that has fewer blocks than the image tells
	image := picture(t, count)
	r := of(t, image, ready(t, image), conf(16, 4, 6), 4)
	r.refuses(api.ErrArg, 6, 13, 6)
	r.refuses(api.ErrNone, 14)
	r.awaits()
	r.was()
	r.fill(5)
	r.gets(5)
}

func TestGetFailed(t *testing.T) { // P16.2: once the disk has failed, what it has is told still, and what is not there at all
	r := rigged(t, 2)
	r.fill(2, 3)
	r.refuses(api.ErrWait, 4)
	r.fails(4)
	r.refuses(api.ErrWait, 4) // nobody has polled
	r.polls(api.ErrFailed, not(4, api.ErrIO))
	r.awaits()
	for range 2 {
		r.refuses(api.ErrFailed, 4, 5)
		r.gets(2)
		r.gets(3)
		r.refuses(api.ErrNone, 0, 1, 14)
		r.polls(api.ErrFailed)
	}
	r.awaits()
	r.has(2, 3)
	r.was()
}

func TestGetFailsTheDisk(t *testing.T) { // P16.2: Read itself fails: that is told, and it does not wait for it
	r := rigged(t, 2)
	r.fill(2)
	all := r.m.Size()
	if e := r.m.Lend(api.Span{At: uint32(all) - 4*1041, Len: 8}); e != api.OK { // where the first request would stand
		t.Fatal(e)
	}
	r.refuses(api.ErrFailed, 4, 4)
	r.awaits()
	r.gets(2)
}
