package cache_test

import (
	"math/rand"
	"slices"
	"testing"

	"pharos/api"
)

// bound is how often a reader polls before it gives up.
const bound = 100000

// reader asks for blocks, in their order, and polls till it has each of them; what it finds there, it takes.
type reader struct {
	*rig
	d    *rand.Rand
	want []uint32
}

// serve lets the device bring some of what it is asked for, in any order, now and then another block's bytes.
func (r *reader) serve(wrong int) {
	for len(r.asked()) > 0 && r.d.Intn(4) > 0 {
		n := r.d.Intn(len(r.asked()))
		b := r.asked()[n]
		if wrong > 0 && r.d.Intn(wrong) == 0 {
			r.answer(n, at(r.image, 0), "\x00", 1025)
		} else {
			r.answer(n, at(r.image, b), "\x00", 1025)
		}
	}
}

// sound demands what follows, of what the cache has and waits for, and of what the device is asked for.
func (r *reader) sound() {
	r.t.Helper()
	has, waits, asks := r.Has(), r.Waits(), slices.Sorted(slices.Values(r.asked()))
	if len(has) > r.most {
		r.t.Fatalf("it has %v, at most %d", has, r.most)
	}
	for k, b := range has {
		if slices.Contains(has[k+1:], b) || slices.Contains(waits, b) || slices.Contains(asks, b) {
			r.t.Fatalf("%d stands twice, or is asked for though it is there: %v %v %v", b, has, waits, asks)
		}
	}
	if len(slices.Compact(slices.Clone(asks))) != len(asks) {
		r.t.Fatalf("the device is asked twice: %v", asks)
	}
	for _, b := range asks {
		if !slices.Contains(waits, b) {
			r.t.Fatalf("%d is asked for, and not waited for: %v", b, waits)
		}
	}
}

// run reads all that is wanted, and looks ahead, too.
func (r *reader) run(wrong int) {
	r.t.Helper()
	for range bound {
		if len(r.want) == 0 {
			return
		}
		s, e := r.Get(r.want[0])
		if e == api.OK {
			if s != at(r.image, r.want[0]) { // what is told has its digest
				r.t.Fatalf("Get(%d): other bytes", r.want[0])
			}
			r.want = r.want[1:]
			continue
		}
		if e != api.ErrWait && e != api.ErrFull {
			r.t.Fatalf("Get(%d): %v", r.want[0], e)
		}
		if r.d.Intn(3) == 0 {
			r.Get(r.want[r.d.Intn(len(r.want))])
		}
		r.sound()
		r.serve(wrong)
		if _, e := r.Poll(); e != api.OK {
			r.t.Fatalf("Poll: %v", e)
		}
		r.sound()
	}
	r.t.Fatalf("it does not come: %v, most %d, %v", r.want, r.most, r.drive.c)
}

func TestAllCome(t *testing.T) { // P16.5: who asks for blocks, in any order, and polls, gets each of them
	d := rand.New(rand.NewSource(165))
	image := picture(t, 40)
	m := ready(t, image)
	for _, most := range []int{1, 2, 3, 8, 64} {
		for _, c := range []api.BlkConf{conf(4, 1, 40), conf(8, 2, 40), conf(64, 8, 40), conf(256, 32, 40)} {
			for _, wrong := range []int{0, 3} {
				r := &reader{rig: of(t, image, m, c, most), d: d}
				for range 3 {
					for _, k := range d.Perm(37) {
						r.want = append(r.want, uint32(3+k))
					}
				}
				r.run(wrong)
			}
		}
	}
}

func TestEachBlockOnce(t *testing.T) { // P16.5: what is there is asked for no more, however often it is read
	image := picture(t, 40)
	r := of(t, image, ready(t, image), conf(256, 32, 40), 37)
	requests := 0
	for range 5 {
		for b := uint32(3); b < 40; b++ {
			if _, e := r.Get(b); e != api.OK {
				r.was(b)
				r.brings(b, at(image, b))
				r.polls(api.OK, ok(b))
				r.gets(b)
				requests++
			}
		}
	}
	if requests != 37 {
		t.Errorf("%d requests for 37 blocks", requests)
	}
}

func TestEveryBit(t *testing.T) { // P16.5: a block of which one bit is another one is never told
	r := rigged(t, 1)
	for bit := range 8 * api.BlockSize {
		r.refuses(api.ErrWait, 6)
		r.brings(6, turned(at(r.image, 6), bit))
		r.polls(api.OK, not(6, api.ErrSum))
	}
	r.has()
	r.fill(6)
	r.gets(6)
}

func TestPlayedAgain(t *testing.T) { // R6: the same is done, the same is answered
	image := picture(t, 40)
	play := func() []uint32 {
		d := rand.New(rand.NewSource(6))
		r := of(t, image, ready(t, image), conf(64, 16, 40), 4)
		var seen []uint32
		for range 400 {
			_, e := r.Get(uint32(d.Intn(42)))
			seen = append(seen, uint32(e))
			if l := r.asked(); len(l) > 0 && d.Intn(2) == 0 {
				n := d.Intn(len(l))
				r.answer(n, at(image, l[n]), "\x00", 1025)
			}
			if d.Intn(3) == 0 {
				came, _ := r.Poll()
				for _, c := range came {
					seen = append(seen, c.Block, uint32(c.Err))
				}
			}
			seen = append(append(seen, r.Has()...), r.Waits()...)
		}
		return seen
	}
	want := play()
	for range 5 {
		if !slices.Equal(play(), want) {
			t.Fatal("played again, it is another one")
		}
	}
}
