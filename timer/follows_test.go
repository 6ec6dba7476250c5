package timer_test

import (
	"math"
	"math/rand"
	"testing"

	"pharos/api"
	"pharos/timer"
)

// P21.4: the value is within the bounds, always.
func TestAlwaysWithin(t *testing.T) {
	d := rand.New(rand.NewSource(2106))
	for range 3000 {
		least, most := bounds(d)
		x := made(t, least, most)
		for range 30 {
			if v := x.Value(); v < least || v > most {
				t.Fatalf("value %d, of bounds %d and %d", v, least, most)
			}
			if d.Intn(4) == 0 {
				x.Backoff()
			} else {
				x.Sample(ticks(d, 33+d.Intn(31)))
			}
		}
	}
}

// alike demands that samples that are alike bring a value to them: a quarter of a tick, four times, lies above them, of which a part is let go.
func (c clock) alike(ticks, least, most uint64) {
	c.t.Helper()
	for range 600 {
		c.Sample(ticks)
	}
	low, high := min(max(ticks, least), most), min(max(ticks+1, least), most)
	if v := c.Value(); v < low || v > high {
		c.t.Fatalf("samples of %d brought the value to %d", ticks, v)
	}
	s, r := c.Smooth()
	if math.Abs(s-float64(ticks)) > 1e-3 || r > 1e-3 {
		c.t.Fatalf("samples of %d brought the smooth time to %v, its deviation to %v", ticks, s, r)
	}
}

// P21.4: samples that are alike bring the value to them, or to the least one, whatever was before.
func TestAlike(t *testing.T) {
	d := rand.New(rand.NewSource(2107))
	for range 300 {
		least, most := bounds(d)
		x := made(t, least, most)
		for range d.Intn(5) {
			x.Sample(d.Uint64() >> 31 % (greatest + 1))
			x.Backoff()
		}
		x.alike(d.Uint64()>>(32+d.Intn(32)), least, most)
		x.alike(d.Uint64()>>(32+d.Intn(32)), least, most)
		x.alike(0, least, most)
		x.alike(greatest, least, most)
	}
	x := made(t, 200, 60000)
	x.alike(5000, 200, 60000)
	x.has(5001)
	x.alike(30, 200, 60000)
	x.has(200)
}

// P21.4: a smooth time is never lost: once it is a number it is one for ever, from 0 to the greatest one.
func TestSmoothStays(t *testing.T) {
	d := rand.New(rand.NewSource(2108))
	for range 500 {
		x := made(t, 1, greatest).after(0)
		for range 100 {
			x.Sample(ticks(d, 33))
			if s, r := x.Smooth(); !(s >= 0 && s <= greatest && r >= 0 && r <= greatest) {
				t.Fatalf("smooth %v, %v", s, r)
			}
		}
	}
}

// P21.4, R1: whatever the numbers are, a pause is from 0 to the greatest time; of a rate that is a rate it is told.
func TestPauseWithin(t *testing.T) {
	d := rand.New(rand.NewSource(2109))
	for range 300000 {
		bytes, rate := whole(d), number(d)
		if d.Intn(2) == 0 {
			rate = timer.Rate(whole(d), rate)
		}
		if p := timer.Pause(bytes, rate); p > api.MaxTimer {
			t.Fatalf("Pause(%d, %v): %d", bytes, rate, p)
		}
	}
}

// P21.4: what bytes need at the rate at which they were sent is the time that it took, but for what is rounded.
func TestThereAndBack(t *testing.T) {
	d := rand.New(rand.NewSource(2110))
	for range 100000 {
		bytes, ticks := 1+whole(d)>>11, d.Uint64()>>(32+d.Intn(32))
		p := timer.Pause(bytes, timer.Rate(bytes, float64(ticks)))
		if p != ticks && p != ticks+1 {
			t.Fatalf("%d bytes in %d ticks: a pause of %d", bytes, ticks, p)
		}
	}
}

// P21.4: a mix of numbers that may be is between them.
func TestMixBetween(t *testing.T) {
	d := rand.New(rand.NewSource(2111))
	for range 100000 {
		old, sample, w := float64(d.Intn(1<<20)), float64(d.Intn(1<<20)), float64(d.Intn(1025))/1024
		if m := timer.Mix(old, sample, w); m < min(old, sample) || m > max(old, sample) {
			t.Fatalf("Mix(%v, %v, %v): %v", old, sample, w, m)
		}
	}
}

// R6: done again, all is the same.
func TestAgain(t *testing.T) {
	play := func() []float64 {
		d := rand.New(rand.NewSource(2112))
		var told []float64
		for range 200 {
			x := made(t, 100, 100000)
			for range 20 {
				x.Sample(ticks(d, 48))
				if d.Intn(3) == 0 {
					x.Backoff()
				}
				s, r := x.Smooth()
				told = append(told, float64(x.Value()), s, r)
			}
			told = append(told, timer.Rate(whole(d), number(d)), float64(timer.Pause(whole(d), number(d))), timer.Mix(number(d), number(d), number(d)))
		}
		return told
	}
	a, b := play(), play()
	for k := range a {
		if !same(a[k], b[k]) {
			t.Fatalf("%d: %v, %v", k, a[k], b[k])
		}
	}
}
