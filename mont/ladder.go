package mont

import "pharos/num"

// top is the highest bit of a clamped number.
const top = 254

// quarter is a quarter of what the curve's 486662 is above 2: by it a point is doubled.
const quarter = (486662 - 2) / 4

// point is told by two numbers whose quotient is its first coordinate, so that no step has to divide. One whose second number is 0 has no coordinates: it is that which adds nothing.
type point struct {
	x, z num.Elem
}

// ladder stands on two points: a multiple of the one that it began with, and the next multiple.
type ladder struct {
	x         num.Elem // that one's first coordinate, by which both always differ
	low, high point
	turned    byte // 1, if both have changed places
}

// begin is a ladder that stands on 0 times the point with that first coordinate, and on once it.
func begin(x num.Elem) ladder {
	return ladder{
		x:    x,
		low:  point{num.Small(1), num.Small(0)},
		high: point{x, num.Small(1)},
	}
}

// times is the first coordinate of that number times the point with that first coordinate; 0, if it has none.
func times(number string, x num.Elem) num.Elem {
	l := begin(x)
	for i := top; i >= 0; i-- {
		l.turn(number[i/8] >> (i % 8) & 1)
		l.climb()
	}
	l.turn(0)
	return l.low.x.Mul(l.low.z.Inv())
}

// turn lets both points change places, unless they stand as the bit has them: where it is 1, the next multiple is doubled, not the lower one.
func (l *ladder) turn(bit byte) {
	other := bit != l.turned
	for _, two := range [2][2]*num.Elem{{&l.low.x, &l.high.x}, {&l.low.z, &l.high.z}} {
		a, b := *two[0], *two[1]
		*two[0], *two[1] = num.Select(other, a, b), num.Select(other, b, a)
	}
	l.turned = bit
}

// climb doubles the low point, and adds to the high one what the low one was.
func (l *ladder) climb() {
	high := l.sum()
	l.double()
	l.high = high
}

// sum is that of both points, which can be told because it is known by which point they differ.
func (l *ladder) sum() point {
	plus, minus := l.low.ends()
	upPlus, upMinus := l.high.ends()
	one, two := upMinus.Mul(plus), upPlus.Mul(minus)
	return point{
		x: square(one.Add(two)),
		z: square(one.Sub(two)).Mul(l.x),
	}
}

// double makes twice the low point of it.
func (l *ladder) double() {
	plus, minus := l.low.ends()
	plus, minus = square(plus), square(minus)
	rest := plus.Sub(minus)
	l.low = point{
		x: plus.Mul(minus),
		z: rest.Mul(plus.Add(rest.Mul(num.Small(quarter)))),
	}
}

// ends are the sum and the difference of its two numbers.
func (p point) ends() (num.Elem, num.Elem) {
	return p.x.Add(p.z), p.x.Sub(p.z)
}

// square is a times a.
func square(a num.Elem) num.Elem {
	return a.Mul(a)
}
