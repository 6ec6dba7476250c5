package cache_test

import (
	"math"
	"slices"
	"testing"

	"pharos/api"
	"pharos/cache"
	"pharos/rofs"
	"pharos/vblk"
)

func TestNew(t *testing.T) { // P16.1
	image := picture(t, count)
	m := ready(t, image)
	d := newDrive(t, conf(16, 4, count))
	for _, most := range []int{1, 2, 63, 64} {
		x, e := cache.New(d.Disk, m, most)
		if x == nil || e != api.OK {
			t.Fatalf("New(%d): %v", most, e)
		}
		if len(x.Has()) != 0 || len(x.Waits()) != 0 {
			t.Fatalf("New(%d): it has %v, waits for %v", most, x.Has(), x.Waits())
		}
	}
	if api.MaxCache != 64 || len(d.asked()) != 0 {
		t.Errorf("New asks for %v", d.asked())
	}
}

func TestNewWrong(t *testing.T) { // P16.1, R3: what is not there is told ahead of a wrong number
	image := picture(t, count)
	m := ready(t, image)
	d := newDrive(t, conf(16, 4, count)).Disk
	var noDisk *vblk.Disk
	var noMount *rofs.Mount
	for _, c := range []struct {
		d    *vblk.Disk
		m    *rofs.Mount
		most int
		want api.Errno
	}{
		{noDisk, m, 1, api.ErrNil}, {d, noMount, 1, api.ErrNil}, {noDisk, noMount, 1, api.ErrNil},
		{&vblk.Disk{}, m, 1, api.ErrNil}, {d, &rofs.Mount{}, 1, api.ErrNil}, {&vblk.Disk{}, &rofs.Mount{}, 1, api.ErrNil},
		{noDisk, m, 0, api.ErrNil}, {d, noMount, 65, api.ErrNil}, {&vblk.Disk{}, m, -1, api.ErrNil}, {d, &rofs.Mount{}, 0, api.ErrNil},
		{d, m, 0, api.ErrArg}, {d, m, -1, api.ErrArg}, {d, m, 65, api.ErrArg},
		{d, m, math.MinInt, api.ErrArg}, {d, m, math.MaxInt, api.ErrArg}, {d, m, 1<<32 + 1, api.ErrArg},
	} {
		if x, e := cache.New(c.d, c.m, c.most); x != nil || e != c.want {
			t.Errorf("New(%v, %v, %d): %v %v, want %v", c.d != nil, c.m != nil, c.most, x, e, c.want)
		}
	}
}

func TestNewOfAnyState(t *testing.T) { // P16.1: a disk that has failed, a mount that is not ready or spoilt are there
	image := picture(t, count)
	failed := newDrive(t, conf(16, 4, count))
	failed.Read(2)
	failed.fails(2)
	failed.Poll()
	if !failed.Failed() {
		t.Fatal("the disk has not failed")
	}
	r := of(t, image, young(t, image), conf(16, 4, count), 1)
	r.refuses(api.ErrState, 2)
	spoilt := young(t, image)
	if e := spoilt.Give(1, at(image, 2)); e != api.ErrSum || len(spoilt.Wants()) != 0 {
		t.Fatalf("the mount is not spoilt: %v", e)
	}
	r = of(t, image, spoilt, conf(16, 4, count), 1)
	r.refuses(api.ErrState, 2)
	x, e := cache.New(failed.Disk, ready(t, image), 1)
	if e != api.OK {
		t.Fatalf("New of a disk that has failed: %v", e)
	}
	if _, e := x.Get(2); e != api.ErrFailed {
		t.Fatalf("Get: %v", e)
	}
	if l, e := x.Poll(); len(l) != 0 || e != api.ErrFailed {
		t.Fatalf("Poll: %v %v", l, e)
	}
}

func TestNone(t *testing.T) { // R3, P16.2 to P16.4: nil, and what New did not make
	var none *cache.Cache
	for _, x := range []*cache.Cache{none, new(cache.Cache), {}} {
		for _, b := range []uint32{0, 2, math.MaxUint32} {
			if s, e := x.Get(b); s != "" || e != api.ErrNil {
				t.Errorf("Get(%d): %q %v", b, s, e)
			}
		}
		if l, e := x.Poll(); len(l) != 0 || e != api.ErrNil {
			t.Errorf("Poll: %v %v", l, e)
		}
		if len(x.Has()) != 0 || len(x.Waits()) != 0 {
			t.Errorf("it has %v, waits for %v", x.Has(), x.Waits())
		}
	}
}

func TestAnswersAreNew(t *testing.T) { // R5: what is done to an answer changes nothing
	r := rigged(t, 3)
	r.fill(4, 5, 6)
	r.refuses(api.ErrWait, 7, 8)
	r.brings(8, at(r.image, 8))
	came, _ := r.Poll()
	came = append(came[:0], api.Came{Block: 99})
	has, waits := r.Has(), r.Waits()
	for _, l := range [][]uint32{has, waits} {
		for k := range l {
			l[k] = 99
		}
		_ = append(l[:0], 98)
	}
	r.has(5, 6, 8)
	r.awaits(7)
	later := r.Has()
	r.gets(5)
	if !slices.Equal(later, []uint32{5, 6, 8}) || came[0].Block != 99 {
		t.Errorf("an answer changes later: %v %v", later, came)
	}
}
