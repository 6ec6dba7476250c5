package edw

import "pharos/num"

// curveD is the curve's d: -121665 by 121666.
const curveD = "\xa3\x78\x59\x13\xca\x4d\xeb\x75\xab\xd8\x41\x41\x4d\x0a\x70\x00\x98\xe8\x79\x77\x79\x40\xc7\x8c\x73\xfe\x6f\x2b\xee\x6c\x03\x52"

// top is the highest bit that a number below L may have.
const top = 252

// addend is a point that is ready to be added: what a sum takes of it alone, without the other one.
type addend struct {
	plus, minus num.Elem // y and x, added; x taken from y
	z, t        num.Elem // twice z; twice d times t
}

// beside is the x that stands beside y in a point of the curve and is odd or is not, as is said, and whether there is one. What it divides by is never 0: no number's square is -1 by d.
func beside(y num.Elem, odd bool) (num.Elem, bool) {
	one, square := num.Small(1), y.Mul(y)
	above, below := square.Sub(one), square.Mul(known(curveD)).Add(one)
	return above.Mul(below.Inv()).Root(odd)
}

// both is a times the one point and b times the other, added: each step doubles what there is and adds one of four, if only the zero point, so that all numbers take the same steps.
func both(p, q Point, a, b string) Point {
	sum := Zero()
	four := [4]addend{sum.ready(), p.ready(), q.ready(), p.Add(q).ready()}
	for i := top; i >= 0; i-- {
		sum = sum.double().plus(four[bit(b, i)<<1|bit(a, i)])
	}
	return sum
}

// bit is that one of a number's bytes.
func bit(s string, i int) byte {
	return s[i/8] >> (i % 8) & 1
}

// ready is what a sum takes of the point.
func (p Point) ready() addend {
	return addend{
		plus:  p.y.Add(p.x),
		minus: p.y.Sub(p.x),
		z:     p.z.Add(p.z),
		t:     p.t.Add(p.t).Mul(known(curveD)),
	}
}

// plus is the sum, whichever two points they are, a point and itself among them.
func (p Point) plus(q addend) Point {
	a, b := p.y.Sub(p.x).Mul(q.minus), p.y.Add(p.x).Mul(q.plus)
	c, d := p.t.Mul(q.t), p.z.Mul(q.z)
	return join(b.Sub(a), d.Sub(c), d.Add(c), b.Add(a))
}

// double is the sum of the point and itself, with fewer products than plus has.
func (p Point) double() Point {
	a, b, c := p.x.Mul(p.x), p.y.Mul(p.y), p.z.Mul(p.z)
	x := p.x.Add(p.y)
	h, g := a.Add(b), a.Sub(b)
	return join(h.Sub(x.Mul(x)), c.Add(c).Add(g), g, h)
}

// join is the point whose x is e by g, and whose y is h by f.
func join(e, f, g, h num.Elem) Point {
	return Point{x: e.Mul(f), y: g.Mul(h), z: f.Mul(g), t: e.Mul(h)}
}
