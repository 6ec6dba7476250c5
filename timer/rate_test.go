package timer_test

import (
	"math"
	"testing"

	"pharos/timer"
)

// P21.3: how many bytes a tick.
func TestRate(t *testing.T) {
	for _, c := range []struct {
		bytes uint64
		ticks float64
		want  float64
	}{
		{10, 4, 2.5},
		{4, 10, 0.4},
		{1, 3, 1.0 / 3},
		{0, 4, 0},
		{10, 0.25, 40},
		{math.MaxUint64, 1, 18446744073709551616},
		{1 << 53, 1, 1 << 53},
		{1<<53 + 1, 1, 1 << 53},         // rounded to the even one
		{1<<53 + 3, 1, 1<<53 + 4},       // so too
		{1<<63 + 1025, 1, 1<<63 + 2048}, // above the middle
		{1<<63 + 1024, 1, 1 << 63},
		// by 0
		{10, 0, inf},
		{10, minus, below},
		{1, 0, inf},
		{1, minus, below},
		{0, 0, nan},
		{0, minus, nan},
		// by what has no end, or is tiny
		{10, inf, 0},
		{0, inf, 0},
		{10, math.SmallestNonzeroFloat64, inf},
		{0, math.SmallestNonzeroFloat64, 0},
		{1, math.MaxFloat64, 1 / math.MaxFloat64},
		// no number, or less than 0
		{10, nan, nan},
		{0, nan, nan},
		{10, -4, nan},
		{0, -4, nan},
		{10, -math.SmallestNonzeroFloat64, nan},
		{10, below, nan},
		{0, below, nan},
	} {
		if r := timer.Rate(c.bytes, c.ticks); !same(r, c.want) {
			t.Errorf("Rate(%d, %v): %v, want %v", c.bytes, c.ticks, r, c.want)
		}
	}
}

// P21.3: how many ticks bytes need.
func TestPause(t *testing.T) {
	for _, c := range []struct {
		bytes uint64
		rate  float64
		want  uint64
	}{
		{10, 4, 3},
		{12, 4, 3},
		{13, 4, 4},
		{8, 4, 2},
		{9, 4, 3},
		{1, 4, 1},
		{10, 0.5, 20},
		{1, 0.4, 3},
		{1, 1, 1},
		{1, math.MaxFloat64, 1}, // however fast, it is not none
		{1, math.Nextafter(1, 2), 1},
		{1, math.Nextafter(1, 0), 2},
		// up to the greatest one
		{greatest - 1, 1, greatest - 1},
		{greatest, 1, greatest},
		{greatest + 1, 1, greatest},
		{2*greatest - 3, 2, greatest - 1},
		{2*greatest - 2, 2, greatest - 1},
		{2*greatest - 1, 2, greatest},
		{2*greatest + 2, 2, greatest},
		{math.MaxUint64, 1, greatest},
		{math.MaxUint64, 1 << 32, greatest},
		{math.MaxUint64, 1 << 33, greatest / 2},
		{math.MaxUint64, math.SmallestNonzeroFloat64, greatest},
		{10, math.SmallestNonzeroFloat64, greatest},
		{1, 1.0 / greatest, greatest},
		{1, 1.0 / (greatest - 1), greatest - 1},
		{1, 1e-30, greatest},
		// no number, without end, no bytes
		{10, nan, 0},
		{10, inf, 0},
		{0, 4, 0},
		{0, nan, 0},
		{0, inf, 0},
		{0, 0, 0},
		{0, minus, 0},
		{0, -1, 0},
		{0, below, 0},
		{math.MaxUint64, inf, 0},
		// 0, or below
		{10, 0, greatest},
		{10, minus, greatest},
		{1, 0, greatest},
		{10, -1, greatest},
		{10, -math.SmallestNonzeroFloat64, greatest},
		{10, -math.MaxFloat64, greatest},
		{10, below, greatest},
	} {
		if p := timer.Pause(c.bytes, c.rate); p != c.want {
			t.Errorf("Pause(%d, %v): %d, want %d", c.bytes, c.rate, p, c.want)
		}
	}
}

type mix struct{ old, sample, weight, want float64 }

// mixes demands what comes of each.
func mixes(t *testing.T, l []mix) {
	t.Helper()
	for _, c := range l {
		if m := timer.Mix(c.old, c.sample, c.weight); !same(m, c.want) {
			t.Errorf("Mix(%v, %v, %v): %v, want %v", c.old, c.sample, c.weight, m, c.want)
		}
	}
}

// P21.3: the old one by the weight, the sample by the rest.
func TestMix(t *testing.T) {
	mixes(t, []mix{
		{4, 8, 0.5, 6},
		{4, 8, 0.75, 5},
		{4, 8, 0.25, 7},
		{4, 8, 0.875, 4.5},
		{8, 4, 0.75, 7},
		{4, 8, 0, 8},
		{4, 8, 1, 4},
		{4, 8, minus, 8},
		{-4, 8, 0.5, 2},
		{0, 8, 0.5, 4},
		{4, 0, 0.5, 2},
		{4, minus, 0.5, 2}, // not less than 0
		{minus, minus, 0.5, minus},
		{0, minus, 0.5, 0},
		{math.MaxFloat64, math.MaxFloat64, 0.5, math.MaxFloat64},
		{math.SmallestNonzeroFloat64, 0, 0.25, 0},
	})
}

// P21.3: of samples that can't be, nothing is mixed in; of an old one that is no number the sample is taken, whatever it is.
func TestMixOfNone(t *testing.T) {
	mixes(t, []mix{
		{nan, 5, 0.5, 5},
		{nan, 0, 0.5, 0},
		{nan, minus, 0, minus},
		{nan, -1, 0.5, -1},
		{nan, inf, 1, inf},
		{nan, below, 0.5, below},
		{nan, nan, 0.5, nan},
		{5, nan, 0.5, 5},
		{5, -1, 0.5, 5},
		{5, -math.SmallestNonzeroFloat64, 0.5, 5},
		{5, inf, 0.5, 5},
		{5, below, 0.5, 5},
		{5, inf, 0, 5},
		{5, nan, 0, 5},
		{-5, -1, 0.5, -5},
		{minus, nan, 0.5, minus},
		{inf, nan, 0.5, inf},
		{below, inf, 0.5, below},
	})
}

// P21.3: an old one without end is reckoned as any.
func TestMixWithoutEnd(t *testing.T) {
	mixes(t, []mix{
		{inf, 5, 0.5, inf},
		{below, 5, 0.5, below},
		{inf, 5, 1, inf},
		{inf, 5, 0, nan}, // what is without end, by 0
		{below, 5, minus, nan},
	})
}

// P21.3: a weight that can't be leaves the old one as it is, which may be no number.
func TestWeight(t *testing.T) {
	for _, w := range []float64{nan, -1, -math.SmallestNonzeroFloat64, math.Nextafter(1, 2), 2, inf, below} {
		mixes(t, []mix{{4, 8, w, 4}, {minus, 8, w, minus}, {nan, 8, w, nan}, {inf, 8, w, inf}, {4, nan, w, 4}})
	}
	mixes(t, []mix{
		{4, 8, math.SmallestNonzeroFloat64, 8},
		{0, 1 << 53, math.Nextafter(1, 0), 1}, // just below 1
		{1, 0, math.Nextafter(1, 0), math.Nextafter(1, 0)},
	})
}
