package edw_test

import (
	"math/big"
	"math/rand"
	"testing"

	"pharos/edw"
	"pharos/order"
)

// P9.3: the sum of any two points: of one and itself, of one and what is minus it, of one and the zero point, of those that are no multiples of the base point.
func TestAdd(t *testing.T) {
	all := some(10)
	for _, a := range all {
		p := of(t, a)
		for _, b := range all {
			is(t, "the sum", p.Add(of(t, b)), a.plus(b))
		}
		is(t, "the point is as it was", p, a)
	}
}

// P9.3: twice a point is the sum of it and itself.
func TestTwice(t *testing.T) {
	for _, a := range some(100) {
		p := of(t, a)
		is(t, "twice", p.Twice(), a.plus(a))
		is(t, "the sum with itself", p.Add(p), a.plus(a))
		is(t, "the point is as it was", p, a)
	}
}

// P9.3: a long game: what one call answers is what the next is given.
func TestGame(t *testing.T) {
	r := rand.New(rand.NewSource(93))
	start := some(4)
	want := make([]spot, 6)
	have := make([]edw.Point, 6)
	for i := range want {
		want[i] = start[r.Intn(len(start))]
		have[i] = of(t, want[i])
	}
	for range 2000 {
		i, j, k := r.Intn(6), r.Intn(6), r.Intn(6)
		switch r.Intn(8) {
		case 0:
			want[i] = start[r.Intn(len(start))]
			have[i] = of(t, want[i])
		case 1, 2:
			want[i], have[i] = want[j].plus(want[j]), have[j].Twice()
		case 3:
			n := int64(r.Intn(1000))
			want[i] = want[j].times(small(n)).plus(base)
			have[i] = have[j].Both(scalar(t, small(n)), scalar(t, small(1)))
		default:
			want[i], have[i] = want[j].plus(want[k]), have[j].Add(have[k])
		}
		is(t, "a step", have[i], want[i])
		if have[i].Same(have[k]) != want[i].same(want[k]) {
			t.Fatalf("Same of %x and %x", want[i].bytes(), want[k].bytes())
		}
	}
}

// edges are numbers of which Both is asked: the ends, and some between them.
func edges() []*big.Int {
	l := []*big.Int{small(0), small(1), small(2), small(3)}
	for i := int64(1); i <= 3; i++ {
		l = append(l, new(big.Int).Sub(whole, small(i)))
	}
	half := new(big.Int).Rsh(whole, 1)
	return append(l, half, new(big.Int).Add(half, small(1)), power(252, 0), power(252, -1), power(128, 0))
}

// P9.3: Both of the ends of the scalars, by all kinds of points.
func TestBothEdges(t *testing.T) {
	r := rand.New(rand.NewSource(94))
	points := append(eight(), base, base.minus(), base.plus(eight()[1]), drawn(r), drawn(r))
	for _, n := range edges() {
		b := base.times(n)
		is(t, "times the base point", edw.Zero().Both(order.Scalar{}, scalar(t, n)), b)
		for _, a := range points {
			m := edges()[r.Intn(len(edges()))]
			is(t, "both", of(t, a).Both(scalar(t, m), scalar(t, n)), a.times(m).plus(b))
		}
	}
}

// P9.3: Both of L - 1 and of 0, on either side, by points that are multiples of the base point and by others: L - 1 times is minus it for the one kind alone.
func TestBothLast(t *testing.T) {
	last, none := new(big.Int).Sub(whole, small(1)), order.Scalar{}
	others := 0
	for _, a := range some(10) {
		p := of(t, a)
		want := a.times(last)
		is(t, "L - 1 times", p.Both(scalar(t, last), none), want)
		is(t, "and minus the base point", p.Both(scalar(t, last), scalar(t, last)), want.plus(base.minus()))
		is(t, "0 times", p.Both(none, none), nought)
		is(t, "0 times, and the base point", p.Both(none, scalar(t, small(1))), base)
		is(t, "once", p.Both(scalar(t, small(1)), none), a)
		if !want.same(a.minus()) {
			others++
		}
	}
	if others < 20 {
		t.Fatalf("%d points say little", others)
	}
}

// P9.3: each bit of either number counts where it stands.
func TestBothEachBit(t *testing.T) {
	a := drawn(rand.New(rand.NewSource(95)))
	p := of(t, a)
	one, other := p, edw.Base()
	for i := range uint(253) {
		n := scalar(t, power(i, 0))
		if !p.Both(n, order.Scalar{}).Same(one) {
			t.Fatalf("bit %d of the first", i)
		}
		if !p.Both(order.Scalar{}, n).Same(other) {
			t.Fatalf("bit %d of the second", i)
		}
		if !p.Both(n, n).Same(one.Add(other)) {
			t.Fatalf("bit %d of both", i)
		}
		one, other = one.Twice(), other.Twice()
	}
}

// P9.3: Both of drawn numbers and points.
func TestBothDrawn(t *testing.T) {
	r := rand.New(rand.NewSource(96))
	for range 30 {
		a, m, n := drawn(r), new(big.Int).Rand(r, whole), new(big.Int).Rand(r, whole)
		is(t, "both", of(t, a).Both(scalar(t, m), scalar(t, n)), a.times(m).plus(base.times(n)))
	}
}

// P9.3: Same tells one point, by whatever sums it came, and any other as another: that with the same y, that with the same x, all others.
func TestSame(t *testing.T) {
	all := some(20)
	for _, a := range all {
		turned := []spot{a.minus(), {a.x, sub(small(0), a.y)}, {sub(small(0), a.x), sub(small(0), a.y)}}
		for _, b := range append(turned, all...) {
			p, q := of(t, a).Add(edw.Base()), of(t, b).Add(edw.Base())
			if p.Same(q) != a.same(b) || p.Same(q) != q.Same(p) {
				t.Fatalf("%x and %x: %v", a.bytes(), b.bytes(), p.Same(q))
			}
		}
	}
}

// P9.2, P9.3: the zero Point of Go is none, in every place of every call; the zero point is some.
func TestNone(t *testing.T) {
	none := edw.Point{}
	isNone(t, "none", none)
	isNone(t, "twice none", none.Twice())
	isNone(t, "none and none", none.Add(none))
	for _, a := range some(5) {
		p := of(t, a)
		isNone(t, "none and a point", none.Add(p))
		isNone(t, "a point and none", p.Add(none))
		if none.Same(p) || p.Same(none) {
			t.Fatalf("%x is none", a.bytes())
		}
	}
	for _, m := range edges() {
		for _, n := range edges() {
			isNone(t, "both of none", none.Both(scalar(t, m), scalar(t, n)))
		}
	}
	zero := edw.Zero()
	if zero.Same(none) || none.Same(zero) || !zero.Same(edw.Zero()) {
		t.Error("the zero point is none")
	}
	is(t, "Zero and Zero", zero.Add(zero), nought)
	is(t, "twice Zero", zero.Twice(), nought)
}
