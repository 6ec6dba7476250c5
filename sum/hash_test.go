package sum_test

import (
	"math/rand"
	"strings"
	"testing"

	"pharos/api"
	"pharos/sum"
)

// known is a hash, and the bytes that it has.
type known struct {
	h *sum.Hash
	s string
}

// add lets it have more.
func (k *known) add(t testing.TB, s string) {
	t.Helper()
	if e := k.h.Add(s); e != api.OK {
		t.Fatalf("Add: %v", e)
	}
	k.s += s
}

// is demands that its sum is that of its bytes.
func (k *known) is(t testing.TB) {
	t.Helper()
	if got, want := k.h.Sum(), library(k.s); got != want {
		t.Fatalf("%d bytes: %x, want %x", len(k.s), got, want)
	}
}

// fresh is a hash that has these bytes.
func fresh(t testing.TB, s string) *known {
	t.Helper()
	k := &known{h: sum.New()}
	k.add(t, s)
	return k
}

// The chapter's example of a copy that goes another way.
func TestExampleCopy(t *testing.T) {
	h := sum.New()
	if e := h.Add("ab"); e != api.OK {
		t.Fatal(e)
	}
	c := h.Copy()
	if e := c.Add("c"); e != api.OK {
		t.Fatal(e)
	}
	if h.Sum() != library("ab") || c.Sum() != library("abc") {
		t.Errorf("%x, %x", h.Sum(), c.Sum())
	}
}

// P11.2: a new hash has no bytes, each call makes another one, and empty texts add nothing.
func TestNew(t *testing.T) {
	a, b := &known{h: sum.New()}, &known{h: sum.New()}
	a.is(t)
	a.add(t, "abc")
	b.is(t)
	for range 1000 {
		a.add(t, "")
		b.add(t, "")
	}
	a.is(t)
	b.is(t)
	if b.h.Sum() != sum.Of("") {
		t.Errorf("%x", b.h.Sum())
	}
}

// P11.2, P11.4: texts cut in two and in three anywhere, the edges of blocks among the places.
func TestCutAnywhere(t *testing.T) {
	r := rand.New(rand.NewSource(115))
	for _, n := range []int{1, 2, 3, 55, 56, 57, 63, 64, 65, 119, 120, 127, 128, 129, 191, 192, 193, 250} {
		s := drawn(r, n)
		want := library(s)
		for i := range n + 1 {
			for j := i; j <= n; j++ {
				h := sum.New()
				h.Add(s[:i])
				h.Add(s[i:j])
				h.Add(s[j:])
				if h.Sum() != want {
					t.Fatalf("%d bytes, cut at %d and %d", n, i, j)
				}
			}
		}
	}
}

// P11.2, P11.4: texts cut into pieces of one length, each, with empty texts between them.
func TestCutIntoPieces(t *testing.T) {
	s := drawn(rand.New(rand.NewSource(116)), 1000)
	want := library(s)
	for n := 1; n <= len(s); n++ {
		h, wide := sum.New(), sum.New()
		for i := 0; i < len(s); i += n {
			piece := s[i:min(i+n, len(s))]
			h.Add(piece)
			wide.Add("")
			wide.Add(piece)
		}
		if h.Sum() != want || wide.Sum() != want || sum.Of(s) != want {
			t.Fatalf("pieces of %d bytes", n)
		}
	}
}

// P11.2: a sum that is told changes nothing: it is told again, and more may come behind it, at every length.
func TestSumWhileMoreComes(t *testing.T) {
	r := rand.New(rand.NewSource(117))
	byOne := &known{h: sum.New()}
	for range 400 {
		byOne.is(t)
		byOne.is(t)
		byOne.add(t, drawn(r, 1))
	}
	for n := range 200 {
		k := fresh(t, drawn(r, n))
		for _, more := range []int{0, 1, 55, 56, 63, 64, 65, 200} {
			k.is(t)
			k.add(t, drawn(r, more))
			k.is(t)
		}
	}
}

// P11.2, P11.4: a copy has the same; from there each goes its own way, byte by byte and by pieces, at every length.
func TestCopyGoesAnotherWay(t *testing.T) {
	r := rand.New(rand.NewSource(118))
	for n := range 150 {
		for _, piece := range []int{1, 2, 7, 56, 63, 64, 65, 130} {
			a := fresh(t, drawn(r, n))
			b := &known{a.h.Copy(), a.s}
			a.is(t)
			b.is(t)
			for range 5 {
				a.add(t, strings.Repeat("a", piece))
				b.add(t, strings.Repeat("b", piece))
			}
			a.is(t)
			b.is(t)
			b.add(t, drawn(r, piece))
			a.is(t)
			b.is(t)
		}
	}
}

// P11.2: one has the same whether or not a copy was made, and copies of copies go on when the first one has gone far away.
func TestCopiesOfCopies(t *testing.T) {
	r := rand.New(rand.NewSource(119))
	first := &known{h: sum.New()}
	all := []*known{first}
	for range 100 {
		last := all[len(all)-1]
		c := &known{last.h.Copy(), last.s}
		if c.h == last.h {
			t.Fatal("the copy is the same object")
		}
		c.add(t, drawn(r, 3))
		all = append(all, c)
	}
	first.add(t, drawn(r, 5000))
	for _, k := range all {
		k.is(t)
	}
}

// P11.2, P11.4: whatever is done in drawn order to hashes and their copies, each sum is that of the bytes that the hash has.
func TestAnyOrder(t *testing.T) {
	r := rand.New(rand.NewSource(120))
	for range 300 {
		all := []*known{{h: sum.New()}}
		for range 60 {
			k := all[r.Intn(len(all))]
			switch r.Intn(4) {
			case 0, 1:
				k.add(t, drawn(r, r.Intn(1+r.Intn(200))))
			case 2:
				k.is(t)
			case 3:
				all = append(all, &known{k.h.Copy(), k.s})
			}
		}
		for _, k := range all {
			k.is(t)
			is(t, k.s)
		}
	}
}

// P11.4: how the bytes came is not told, but which bytes in which order.
func TestOrderCounts(t *testing.T) {
	a, b := strings.Repeat("a", 64), strings.Repeat("b", 64)
	ab, ba, aa := fresh(t, a), fresh(t, b), fresh(t, a)
	ab.add(t, b)
	ba.add(t, a)
	aa.add(t, a)
	if ab.h.Sum() == ba.h.Sum() || ab.h.Sum() == aa.h.Sum() || aa.h.Sum() == sum.Of(a) {
		t.Error("the order does not count")
	}
}

// R3: nil, and hashes that this package did not make, answer ErrNil or nothing, and do nothing.
func TestNoHash(t *testing.T) {
	var none *sum.Hash
	for name, h := range map[string]*sum.Hash{"nil": none, "new": new(sum.Hash), "literal": {}} {
		for _, s := range []string{"", "abc", strings.Repeat("x", 64), strings.Repeat("x", 1000)} {
			if e := h.Add(s); e != api.ErrNil {
				t.Errorf("%s: Add of %d bytes: %v", name, len(s), e)
			}
			if d := h.Sum(); d != "" {
				t.Errorf("%s: Sum: %x", name, d)
			}
			if c := h.Copy(); c != nil {
				t.Errorf("%s: Copy: %v", name, c)
			}
		}
	}
}

// R3: a copy that a copy's call made is one that its package made.
func TestCopyIsMade(t *testing.T) {
	c := sum.New().Copy().Copy()
	if e := c.Add("abc"); e != api.OK {
		t.Fatal(e)
	}
	if c.Sum() != library("abc") || c.Copy() == nil {
		t.Errorf("%x", c.Sum())
	}
}
