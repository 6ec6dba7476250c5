package timer_test

import (
	"math"
	"testing"

	"pharos/api"
	"pharos/timer"
)

// P21.1: the bounds that a timer takes.
func TestBounds(t *testing.T) {
	for _, c := range [][2]uint64{{1, 1}, {1, greatest}, {200, 60000}, {999, 1001}, {greatest, greatest}, {greatest - 1, greatest}} {
		made(t, c[0], c[1])
	}
	for _, c := range [][2]uint64{
		{0, 0}, {0, 1}, {0, 60000}, {0, greatest}, // less than 1
		{2, 1}, {60000, 200}, {201, 200}, {1, 0}, {greatest, greatest - 1}, // beyond the greatest one
		{1, greatest + 1}, {greatest + 1, greatest + 1}, {1, math.MaxUint64}, // and beyond what may be
		{0, greatest + 1}, {math.MaxUint64, math.MaxUint64}, {math.MaxUint64, 1}, {math.MaxUint64, 0},
	} {
		refused(t, c[0], c[1])
	}
}

// P21.1: the first value is 1,000 between the bounds, and there is no smooth time.
func TestFirstValue(t *testing.T) {
	for _, c := range []struct{ least, most, value uint64 }{
		{200, 60000, 1000},
		{1, greatest, 1000},
		{1000, 60000, 1000},
		{999, 60000, 1000},
		{1001, 60000, 1001},
		{5000, 60000, 5000},
		{greatest, greatest, greatest},
		{1, 1000, 1000},
		{1, 1001, 1000},
		{1, 999, 999},
		{1, 1, 1},
		{1000, 1000, 1000},
		{20, 30, 30},
		{2000, 2000, 2000},
	} {
		made(t, c.least, c.most).is(c.value, nan, nan)
	}
}

// P21.2: the chapter's example.
func TestExample(t *testing.T) {
	x := made(t, 200, 60000)
	x.has(1000)
	x.Sample(100)
	x.is(300, 100, 50)
	x.Sample(100)
	x.is(250, 100, 37.5)
	x.Backoff()
	x.is(500, 100, 37.5)
}

// P21.2: the first sample is the smooth time, and half of it the deviation.
func TestFirstSample(t *testing.T) {
	for _, c := range []struct {
		ticks, value uint64
		half         float64
	}{
		{1, 3, 0.5},
		{2, 6, 1},
		{3, 9, 1.5},
		{100, 300, 50},
		{101, 303, 50.5},
		{65535, 196605, 32767.5},
	} {
		made(t, 1, greatest).after(c.ticks).is(c.value, float64(c.ticks), c.half)
	}
}

// P21.2: the deviation goes by the smooth time that was, and the smooth time behind it; the distance has no sign.
func TestSecondSample(t *testing.T) {
	made(t, 1, greatest).after(100, 200).is(362, 112.5, 62.5)
	made(t, 1, greatest).after(200, 100).is(587, 187.5, 100)
	made(t, 1, greatest).after(100, 300).is(475, 125, 87.5)
	made(t, 1, greatest).after(8, 0).is(27, 7, 5)
	made(t, 1, greatest).after(0, 8).is(9, 1, 2)
	made(t, 1, greatest).after(100, 200, 100).is(310, 110.9375, 50)
}

// P21.2: a deviation of less than 0.25 counts for 0.25.
func TestSmallDeviation(t *testing.T) {
	made(t, 1, greatest).after(0).is(1, 0, 0)
	made(t, 1, greatest).after(0, 0).is(1, 0, 0)
	made(t, 1, greatest).after(0, 1).is(1, 0.125, 0.25)
	made(t, 1, greatest).after(0, 1, 0).is(1, 0.109375, 0.21875)
	made(t, 1, greatest).after(1, 1, 1).is(2, 1, 0.28125) // 1 and 1.125
	made(t, 1, greatest).after(1, 1, 1, 1).is(2, 1, 0.2109375)
	made(t, 1, greatest).after(2, 2, 2, 2, 2).is(3, 2, 0.31640625)
	made(t, 1, greatest).after(2, 2, 2, 2, 2, 2).is(3, 2, 0.2373046875)
	x := made(t, 1, greatest)
	for range 40 {
		x.Sample(7)
	}
	x.has(8)
}

// P21.2: the part below the point is let go, not rounded.
func TestCut(t *testing.T) {
	made(t, 1, greatest).after(10, 20).is(36, 11.25, 6.25)    // 36.25
	made(t, 1, greatest).after(20, 10).is(58, 18.75, 10)      // 58.75
	made(t, 1, greatest).after(100, 200).is(362, 112.5, 62.5) // 362.5
	made(t, 36, 37).after(10, 20).has(36)
	made(t, 37, 37).after(10, 20).has(37)
}

// P21.2: the value stays within the bounds, the smooth time does not.
func TestWithin(t *testing.T) {
	made(t, 200, 60000).after(66).is(200, 66, 33)
	made(t, 200, 60000).after(67).is(201, 67, 33.5)
	made(t, 200, 60000).after(1).is(200, 1, 0.5)
	made(t, 200, 60000).after(0).is(200, 0, 0)
	made(t, 200, 60000).after(20000).is(60000, 20000, 10000)
	made(t, 200, 60000).after(20001).is(60000, 20001, 10000.5)
	made(t, 200, 60000).after(19999).is(59997, 19999, 9999.5)
	made(t, 200, 60000).after(greatest).is(60000, greatest, greatest/2)
	made(t, 1, greatest).after(greatest).is(greatest, greatest, greatest/2)
	made(t, 1, greatest).after(greatest, 0).is(greatest, 3758096384, 2684354560)
	made(t, 5, 5).after(9).has(5)
}

// P21.2: a sample beyond what may be changes nothing, at first and later.
func TestLongSample(t *testing.T) {
	for _, long := range []uint64{greatest + 1, greatest + 2, 1 << 33, 1 << 63, math.MaxUint64} {
		x := made(t, 200, 60000)
		x.after(long).is(1000, nan, nan)
		x.after(100, 100, long).is(250, 100, 37.5)
		x.Backoff()
		x.after(long).is(500, 100, 37.5)
	}
	made(t, 1, greatest).after(greatest-1).is(greatest, greatest-1, 2147483647.5)
}

// P21.2: a backoff doubles the value, at most up to the greatest time; what was measured stays.
func TestBackoff(t *testing.T) {
	x := made(t, 200, 60000)
	for _, v := range []uint64{2000, 4000, 8000, 16000, 32000, 60000, 60000, 60000} {
		x.Backoff()
		x.is(v, nan, nan)
	}
	y := made(t, 1, greatest)
	for range 100 {
		y.Backoff()
	}
	y.is(greatest, nan, nan)
	z := made(t, 500, 1000).after(10)
	z.is(500, 10, 5)
	z.Backoff()
	z.is(1000, 10, 5)
	z.Backoff()
	z.is(1000, 10, 5)
	one := made(t, 1, 1)
	one.Backoff()
	one.is(1, nan, nan)
	odd := made(t, 1, 1999)
	odd.Backoff()
	odd.is(1999, nan, nan)
}

// P21.2: a sample behind a backoff makes the value anew.
func TestSampleBehindBackoff(t *testing.T) {
	x := made(t, 200, 60000)
	x.Backoff()
	x.Backoff()
	x.after(100).is(300, 100, 50)
	x.Backoff()
	x.after(100).is(250, 100, 37.5)
	x.Backoff()
	x.Backoff()
	x.is(1000, 100, 37.5)
	x.after(1).is(299, 87.625, 52.875)
}

// R3: of a nil timer, and of one that New did not make, nothing is told, and nothing is done.
func TestNone(t *testing.T) {
	for k, x := range []*timer.Timer{nil, {}, new(timer.Timer)} {
		for range 3 {
			x.Sample(100)
			x.Backoff()
			if v := x.Value(); v != 0 {
				t.Errorf("%d: value %d", k, v)
			}
			if s, r := x.Smooth(); s == s || r == r {
				t.Errorf("%d: %v, %v", k, s, r)
			}
		}
	}
}

// R2: beside an error there is no timer, which may be asked as any that is nil.
func TestNoTimer(t *testing.T) {
	x, e := timer.New(api.TimerConf{})
	if x != nil || e != api.ErrArg || x.Value() != 0 {
		t.Error(x, e)
	}
}

// R3, R6: a timer is what was done to it, whatever was done to others.
func TestApart(t *testing.T) {
	x, y := made(t, 1, greatest), made(t, 1, greatest)
	x.after(100)
	y.is(1000, nan, nan)
	y.Backoff()
	x.is(300, 100, 50)
	y.is(2000, nan, nan)
}

// R5: what is handed in is not kept.
func TestConf(t *testing.T) {
	c := api.TimerConf{Least: 10, Most: 5000}
	x, _ := timer.New(c)
	c.Least, c.Most = 1, 1
	for range 9 {
		x.Backoff()
	}
	if x.Value() != 5000 {
		t.Error(x.Value())
	}
}
