package timer_test

import (
	"math"
	"math/big"
	"math/rand"
	"testing"

	"pharos/timer"
)

// exact is a number of 53 bits on which nothing is fused: each thing that is done to it is rounded by itself. It has no greatest and no least one, so that it is asked in between alone.
func exact(x float64) *big.Float { return new(big.Float).SetPrec(53).SetFloat64(x) }

func plus(a, b *big.Float) *big.Float  { return new(big.Float).SetPrec(53).Add(a, b) }
func less(a, b *big.Float) *big.Float  { return new(big.Float).SetPrec(53).Sub(a, b) }
func times(a, b *big.Float) *big.Float { return new(big.Float).SetPrec(53).Mul(a, b) }
func by(a, b *big.Float) *big.Float    { return new(big.Float).SetPrec(53).Quo(a, b) }

// mixed is the mix of numbers none of which is strange.
func mixed(old, sample *big.Float, weight float64) *big.Float {
	w := exact(weight)
	return plus(times(old, w), times(sample, less(exact(1), w)))
}

// model is a timer told by such numbers; its bounds are integers that need no care.
type model struct {
	least, most, value *big.Int
	srtt, rttvar       *big.Float // nil, if no numbers
}

func modelled(least, most uint64) *model {
	m := &model{least: new(big.Int).SetUint64(least), most: new(big.Int).SetUint64(most)}
	m.set(big.NewInt(1000))
	return m
}

func (m *model) set(x *big.Int) {
	if x.Cmp(m.least) < 0 {
		x = m.least
	}
	if x.Cmp(m.most) > 0 {
		x = m.most
	}
	m.value = x
}

func (m *model) backoff() { m.set(new(big.Int).Lsh(m.value, 1)) }

func (m *model) sample(ticks uint64) {
	if ticks > greatest {
		return
	}
	x := exact(float64(ticks))
	if m.srtt == nil {
		m.srtt, m.rttvar = x, times(x, exact(0.5))
	} else {
		far := less(m.srtt, x)
		m.rttvar = mixed(m.rttvar, far.Abs(far), 0.75)
		m.srtt = mixed(m.srtt, x, 0.875)
	}
	wide := exact(0.25)
	if m.rttvar.Cmp(wide) > 0 {
		wide = m.rttvar
	}
	v, _ := plus(m.srtt, times(exact(4), wide)).Int(nil)
	m.set(v)
}

func (m *model) smooth() (float64, float64) {
	if m.srtt == nil {
		return math.NaN(), math.NaN()
	}
	s, _ := m.srtt.Float64()
	r, _ := m.rttvar.Float64()
	return s, r
}

// tally counts what games came to, so that they say enough.
type tally struct{ least, most, between, long, parts int }

func (n *tally) count(m *model) {
	switch {
	case m.value.Cmp(m.most) == 0:
		n.most++
	case m.value.Cmp(m.least) == 0:
		n.least++
	default:
		n.between++
	}
	if s, _ := m.smooth(); s != math.Trunc(s) {
		n.parts++
	}
}

// bounds are drawn ones that may be.
func bounds(d *rand.Rand) (least, most uint64) {
	most = 1 + d.Uint64()>>(32+d.Intn(32))
	return 1 + uint64(d.Int63n(int64(most)))>>d.Intn(20), most
}

// ticks are drawn near to some size, or anywhere.
func ticks(d *rand.Rand, near int) uint64 {
	switch d.Intn(12) {
	case 0:
		return whole(d)
	case 1:
		return greatest + uint64(d.Intn(3)) - 1
	case 2:
		return 0
	default:
		return d.Uint64() >> (near - d.Intn(2))
	}
}

// P21.1, P21.2: drawn games, against the model.
func TestGames(t *testing.T) {
	d := rand.New(rand.NewSource(2102))
	var n tally
	for range 4000 {
		least, most := bounds(d)
		x, m := made(t, least, most), modelled(least, most)
		near := 33 + d.Intn(31)
		for range d.Intn(40) {
			if d.Intn(5) == 0 {
				x.Backoff()
				m.backoff()
			} else {
				v := ticks(d, near)
				if v > greatest {
					n.long++
				}
				x.Sample(v)
				m.sample(v)
			}
			s, r := m.smooth()
			x.is(m.value.Uint64(), s, r)
			n.count(m)
		}
	}
	if n.least < 500 || n.most < 500 || n.between < 5000 || n.long < 500 || n.parts < 5000 {
		t.Errorf("the games say too little: %+v", n)
	}
}

// P21.3: drawn mixes, each product rounded by itself. Some would be others, if a product and the sum were rounded at once.
func TestDrawnMixes(t *testing.T) {
	d := rand.New(rand.NewSource(2103))
	fused := 0
	for range 100000 {
		old, sample, w := math.Ldexp(d.NormFloat64(), d.Intn(9)), math.Ldexp(d.Float64(), d.Intn(9)), d.Float64()
		want, _ := mixed(exact(old), exact(sample), w).Float64()
		if m := timer.Mix(old, sample, w); !same(m, want) {
			t.Fatalf("Mix(%v, %v, %v): %v, want %v", old, sample, w, m, want)
		}
		if math.FMA(old, w, sample*(1-w)) != want || math.FMA(sample, 1-w, old*w) != want {
			fused++
		}
	}
	if fused < 10000 {
		t.Errorf("only %d mixes would tell", fused)
	}
}

// P21.3: of drawn numbers of any kind, a mix is the mix, the old one or the sample, as the words say.
func TestStrangeMixes(t *testing.T) {
	d := rand.New(rand.NewSource(2104))
	for range 200000 {
		old, sample, w := number(d), number(d), number(d)
		want := old*w + sample*(1-w)
		if math.IsNaN(sample) || sample < 0 || math.IsInf(sample, 0) {
			want = old
		}
		if math.IsNaN(old) {
			want = sample
		}
		if !(w >= 0 && w <= 1) {
			want = old
		}
		// Where products are tiny or wild the sum that stands above may be fused on some machines: what is near is the other test's.
		if m := timer.Mix(old, sample, w); !same(m, want) && !(math.Abs(m-want) <= 1e-12*math.Abs(want)) {
			t.Fatalf("Mix(%v, %v, %v): %v, want %v", old, sample, w, m, want)
		}
	}
}

// P21.3: drawn rates and pauses. What bytes need is reckoned without a call of package math.
func TestDrawnRates(t *testing.T) {
	d := rand.New(rand.NewSource(2105))
	for range 100000 {
		bytes, x := whole(d), math.Ldexp(0.5+d.Float64(), d.Intn(60)-20)
		q := by(exact(float64(bytes)), exact(x))
		want, _ := q.Float64()
		if r := timer.Rate(bytes, x); !same(r, want) {
			t.Fatalf("Rate(%d, %v): %v, want %v", bytes, x, r, want)
		}
		i, a := q.Int(nil)
		if a == big.Below {
			i.Add(i, big.NewInt(1))
		}
		if most := big.NewInt(greatest); i.Cmp(most) > 0 {
			i = most
		}
		if p := timer.Pause(bytes, x); p != i.Uint64() {
			t.Fatalf("Pause(%d, %v): %d, want %d", bytes, x, p, i)
		}
	}
}
