package timer

import (
	"math"

	"pharos/api"
)

// unlike tells what is not a number: nothing else is unlike itself.
func unlike(x float64) bool { return x != x }

// Rate is how many bytes a tick were sent.
func Rate(bytes uint64, ticks float64) float64 {
	if unlike(ticks) || ticks < 0 {
		return math.NaN()
	}
	return float64(bytes) / ticks // by 0 too: the rules of such numbers tell what that is
}

// Pause is how many ticks bytes need at a rate.
func Pause(bytes uint64, rate float64) uint64 {
	switch {
	case unlike(rate) || math.IsInf(rate, 1) || bytes == 0:
		return 0
	case rate <= 0:
		return api.MaxTimer
	}
	// The least is taken ahead of the conversion: of what is beyond all integers, and of an infinity, it would make anything.
	return uint64(min(math.Ceil(float64(bytes)/rate), api.MaxTimer))
}

// Mix draws an old number near to a sample: the less, the nearer the weight is to 1.
func Mix(old, sample, weight float64) float64 {
	switch {
	case unlike(weight) || weight < 0 || weight > 1:
		return old
	case unlike(old):
		return sample
	case unlike(sample) || sample < 0 || math.IsInf(sample, 1):
		return old
	}
	// Each product is made a float64 of its own, else a machine may round it and the sum at once.
	return float64(old*weight) + float64(sample*(1-weight))
}
