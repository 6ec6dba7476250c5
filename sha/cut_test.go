package sha_test

import (
	"math/rand"
	"slices"
	"strings"
	"testing"

	"pharos/sha"
)

// P10.2, R4: no texts, a list without elements, and empty texts are the same bytes: none.
func TestNoBytes(t *testing.T) {
	none := sha.Of()
	for _, l := range [][]string{nil, {}, {""}, {"", ""}, slices.Repeat([]string{""}, 1000)} {
		if len(none) != 64 || sha.Of(l...) != none {
			t.Errorf("%d texts: %x", len(l), sha.Of(l...))
		}
	}
	is(t)
}

// P10.2: texts cut in two and in three anywhere, the edges of blocks among the places.
func TestCutAnywhere(t *testing.T) {
	r := rand.New(rand.NewSource(106))
	for _, n := range []int{1, 2, 3, 111, 112, 113, 127, 128, 129, 239, 240, 255, 256, 257, 400} {
		s := drawn(r, n)
		want := sha.Of(s)
		is(t, s)
		for i := range n + 1 {
			if sha.Of(s[:i], s[i:]) != want {
				t.Fatalf("%d bytes, cut at %d", n, i)
			}
			for j := i; j <= n; j += 1 + r.Intn(5) {
				if sha.Of(s[:i], s[i:j], s[j:]) != want {
					t.Fatalf("%d bytes, cut at %d and %d", n, i, j)
				}
			}
		}
	}
}

// P10.2: texts cut into pieces of one length, each, and with empty texts between them.
func TestCutIntoPieces(t *testing.T) {
	r := rand.New(rand.NewSource(107))
	s := drawn(r, 1500)
	want := sha.Of(s)
	for n := 1; n <= len(s); n++ {
		var l, wide []string
		for i := 0; i < len(s); i += n {
			piece := s[i:min(i+n, len(s))]
			l = append(l, piece)
			wide = append(wide, "", piece, "")
		}
		if sha.Of(l...) != want || sha.Of(wide...) != want {
			t.Fatalf("pieces of %d bytes", n)
		}
	}
}

// P10.2: drawn bytes in drawn pieces.
func TestCutByChance(t *testing.T) {
	r := rand.New(rand.NewSource(108))
	for range 3000 {
		var l []string
		for range r.Intn(12) {
			l = append(l, drawn(r, r.Intn(1+r.Intn(400))))
		}
		is(t, l...)
	}
}

// P10.2: which texts they were is not told, but which bytes in which order.
func TestOrderCounts(t *testing.T) {
	a, b := strings.Repeat("a", 128), strings.Repeat("b", 128)
	if sha.Of(a, b) == sha.Of(b, a) || sha.Of("a", "bc") == sha.Of("bc", "a") || sha.Of(a) == sha.Of(a, a) {
		t.Error("the order does not count")
	}
	if sha.Of("a", "bc") != sha.Of("ab", "c") || sha.Of(a+b) != sha.Of(a, b) {
		t.Error("the cut counts")
	}
}
