package timer_test

import (
	"math"
	"math/rand"
	"testing"

	"pharos/api"
	"pharos/timer"
)

// greatest is the greatest time that may be.
const greatest = 4294967296

// The numbers that are none, without end, or zero with a sign.
var (
	nan   = math.NaN()
	inf   = math.Inf(1)
	below = math.Inf(-1)
	minus = math.Copysign(0, -1)
)

// same tells whether two numbers are one, by sign and all, or neither is a number.
func same(a, b float64) bool {
	return a != a && b != b || math.Float64bits(a) == math.Float64bits(b)
}

// clock is a timer, and what must be of it.
type clock struct {
	*timer.Timer
	t *testing.T
}

func made(t *testing.T, least, most uint64) clock {
	t.Helper()
	x, e := timer.New(api.TimerConf{Least: least, Most: most})
	if x == nil || e != api.OK {
		t.Fatalf("New(%d, %d): %v %v", least, most, x, e)
	}
	return clock{x, t}
}

// refused demands that no timer is made of such bounds.
func refused(t *testing.T, least, most uint64) {
	t.Helper()
	if x, e := timer.New(api.TimerConf{Least: least, Most: most}); x != nil || e != api.ErrArg {
		t.Errorf("New(%d, %d): %v %v", least, most, x, e)
	}
}

func (c clock) has(value uint64) {
	c.t.Helper()
	if v := c.Value(); v != value {
		c.t.Fatalf("value %d, want %d", v, value)
	}
}

// is demands all that is told of it.
func (c clock) is(value uint64, srtt, rttvar float64) {
	c.t.Helper()
	s, r := c.Smooth()
	if v := c.Value(); v != value || !same(s, srtt) || !same(r, rttvar) {
		c.t.Fatalf("%d, %v, %v, want %d, %v, %v", v, s, r, value, srtt, rttvar)
	}
}

// after tells samples, one behind the other.
func (c clock) after(ticks ...uint64) clock {
	for _, x := range ticks {
		c.Sample(x)
	}
	return c
}

// number is one of any kind and size.
func number(d *rand.Rand) float64 {
	switch d.Intn(6) {
	case 0:
		return []float64{nan, inf, below, 0, minus, 1, -1, 0.25, greatest, math.MaxFloat64, math.SmallestNonzeroFloat64}[d.Intn(11)]
	case 1:
		return math.Float64frombits(d.Uint64())
	case 2:
		return d.Float64()
	case 3:
		return -d.ExpFloat64()
	default:
		return math.Ldexp(d.Float64(), d.Intn(70)-20)
	}
}

// whole is an integer of any size, often a small one.
func whole(d *rand.Rand) uint64 { return d.Uint64() >> d.Intn(65) }
