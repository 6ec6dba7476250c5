package num

// rootOfMinusOne is the root of p - 1 that is not odd: 2 to the power (p - 1) / 4, which is known, so that no root has to work it out.
var rootOfMinusOne = words{0xc4ee1b274a0ea0b0, 0x2f431806ad2fe478, 0x2b4d00993dfbd7a7, 0x2b8324804fc1df0b}

// Inv is that by which it is to be multiplied to make 1; of 0 it is 0.
func (a Elem) Inv() Elem {
	return a.power(0, 1, 0, 1, 1) // p - 2
}

// Root is the root that is odd, or the one that is not, and whether there is one.
func (a Elem) Root(odd bool) (Elem, bool) {
	r := a.power(1, 0) // (p + 3) / 8: the square of that power is a or -a, if a has a root
	r = choose(r.squareOf(a), r.Mul(Elem{rootOfMinusOne}), r)
	r = choose(r.lowest()^mask(odd), r, Elem{}.Sub(r))
	is := r.squareOf(a) &^ (r.lowest() ^ mask(odd)) // 0 is its own opposite, and never odd
	return choose(is, Elem{}, r), is != 0
}

// squareOf is a mask: all ones, if r is a root of a.
func (r Elem) squareOf(a Elem) uint64 {
	return alike(r.Mul(r).w, a.w)
}

// power is a to the power that has 250 bits that are 1, and behind them the last ones: so all powers begin that are asked for here.
func (a Elem) power(last ...uint64) Elem {
	r := a.ones()
	for _, bit := range last {
		r = r.Mul(r).Mul(choose(-bit, Small(1), a))
	}
	return r
}

// ones is a to the power 2^250 - 1.
func (a Elem) ones() Elem {
	two := join(a, a, 1)
	four := join(two, two, 2)
	five := join(four, a, 1)
	ten := join(five, five, 5)
	twenty := join(ten, ten, 10)
	forty := join(twenty, twenty, 20)
	fifty := join(forty, ten, 10)
	hundred := join(fifty, fifty, 50)
	twoHundred := join(hundred, hundred, 100)
	return join(twoHundred, fifty, 50)
}

// join is the power whose bits are those of the first, and behind them the n ones of the second.
func join(first, second Elem, n int) Elem {
	for range n {
		first = first.Mul(first)
	}
	return first.Mul(second)
}
