package sha_test

import (
	"crypto/sha512"
	"encoding/hex"
	"math/rand"
	"slices"
	"strings"
	"sync"
	"testing"

	"pharos/sha"
)

// is demands that the digest of the texts is the library's of all of them in one.
func is(t testing.TB, l ...string) {
	t.Helper()
	all := strings.Join(l, "")
	want := sha512.Sum512([]byte(all))
	if got := sha.Of(l...); got != string(want[:]) {
		t.Fatalf("%d texts, %d bytes: %x, want %x", len(l), len(all), got, want)
	}
}

// drawn are n bytes.
func drawn(r *rand.Rand, n int) string {
	b := make([]byte, n)
	r.Read(b)
	return string(b)
}

// The chapter's examples.
func TestExamples(t *testing.T) {
	for _, x := range []struct {
		first string
		l     []string
	}{
		{"cf83e1357eefb8bd", nil},
		{"ddaf35a193617aba", []string{"a", "bc"}},
	} {
		if d := hex.EncodeToString([]byte(sha.Of(x.l...))); len(d) != 128 || d[:16] != x.first {
			t.Errorf("%q: %s", x.l, d)
		}
	}
}

// P10.1, W6: digests that are known, written out, the texts of RFC 6234, section 8.5, among them.
func TestKnown(t *testing.T) {
	const long = "abcdefghbcdefghicdefghijdefghijkefghijklfghijklmghijklmnhijklmnoijklmnopjklmnopqklmnopqrlmnopqrsmnopqrstnopqrstu"
	for _, x := range []struct{ s, want string }{
		{"", "cf83e1357eefb8bdf1542850d66d8007d620e4050b5715dc83f4a921d36ce9ce47d0d13c5d85f2b0ff8318d2877eec2f63b931bd47417a81a538327af927da3e"},
		{"abc", "ddaf35a193617abacc417349ae20413112e6fa4e89a97ea20a9eeee64b55d39a2192992a274fc1a836ba3c23a3feebbd454d4423643ce80e2a9ac94fa54ca49f"},
		{long, "8e959b75dae313da8cf4f72814fc143f8f7779c6eb9f7fa17299aeadb6889018501d289e4900f7e4331b99dec4b5433ac7d329eeb6dd26545e96e55b874be909"},
		{strings.Repeat("a", 1000000), "e718483d0ce769644e2e42c7bc15b4638e1f98b13b2044285632a803afa973ebde0ff244877ea60a4cb0432ce577c31beb009c5c2c49aa2e4eadb217ad8cc09b"},
		{strings.Repeat("01234567", 80), "89d05ba632c699c31231ded4ffc127d5a894dad412c0e024db872d1abd2ba8141a0f85072a9be1e2aa04cf33c765cb510813a39cd5a84c4acaa64d3f3fb7bae9"},
	} {
		if d := hex.EncodeToString([]byte(sha.Of(x.s))); d != x.want {
			t.Errorf("%d bytes: %s", len(x.s), d)
		}
	}
}

// P10.1: every length up to nine blocks, of bytes 0, of bytes 255, of bytes 128 (as the one that stands behind), and of drawn ones.
func TestEachLength(t *testing.T) {
	r := rand.New(rand.NewSource(102))
	for n := range 9*128 + 2 {
		is(t, strings.Repeat("\x00", n))
		is(t, strings.Repeat("\xff", n))
		is(t, strings.Repeat("\x80", n))
		is(t, drawn(r, n))
	}
}

// P10.1: lengths around the edges of many blocks.
func TestLengthsAroundEdges(t *testing.T) {
	r := rand.New(rand.NewSource(103))
	all := drawn(r, 1<<20+256)
	for _, blocks := range []int{1, 2, 3, 4, 15, 16, 63, 255, 256, 511, 512, 1000, 8191, 8192} {
		for _, edge := range []int{0, 111, 112, 127} {
			for more := -1; more <= 1; more++ {
				is(t, all[:blocks*128+edge+more])
			}
		}
	}
}

// P10.1: each byte counts with all its bits, wherever it stands.
func TestEachBit(t *testing.T) {
	for _, n := range []int{1, 111, 112, 127, 128, 129, 256} {
		seen := map[string]bool{sha.Of(strings.Repeat("\x00", n)): true}
		for i := range 8 * n {
			b := make([]byte, n)
			b[i/8] = 1 << (i % 8)
			is(t, string(b))
			seen[sha.Of(string(b))] = true
		}
		if len(seen) != 8*n+1 {
			t.Errorf("%d bytes: %d digests", n, len(seen))
		}
	}
}

// P10.1: a text that has, as its own bytes, what stands behind a shorter one has another digest.
func TestLooksLikeTheEnd(t *testing.T) {
	whole := "abc\x80" + strings.Repeat("\x00", 123) + "\x18"
	seen := map[string]bool{}
	for _, s := range []string{"abc", "abc\x80", "abc\x80\x00", "abc\x00", "\x00abc", whole[:112], whole, whole + "\x80"} {
		is(t, s)
		seen[sha.Of(s)] = true
	}
	if len(seen) != 8 {
		t.Errorf("%d digests", len(seen))
	}
}

// P10.1: from 2^29 bytes on the bits are more than a word of 32 bits tells.
func TestManyBytes(t *testing.T) {
	if testing.Short() {
		t.Skip("takes seconds")
	}
	piece := drawn(rand.New(rand.NewSource(104)), 1<<20)
	l := append(slices.Repeat([]string{piece}, 512), "end")
	h := sha512.New()
	for _, s := range l {
		h.Write([]byte(s))
	}
	if got, want := sha.Of(l...), string(h.Sum(nil)); got != want {
		t.Fatalf("%x, want %x", got, want)
	}
}

// R5, R6: the list that is handed in stays as it is, and a call's answer does not hang on the calls before or beside it.
func TestNothingIsKept(t *testing.T) {
	r := rand.New(rand.NewSource(105))
	l := []string{drawn(r, 100), "", drawn(r, 200), "abc"}
	was := slices.Clone(l)
	want := sha.Of(l...)
	var all sync.WaitGroup
	for range 8 {
		all.Go(func() {
			for i := range 200 {
				s := strings.Repeat("x", i)
				if sha.Of(s) != sha.Of(s[:i/2], s[i/2:]) || sha.Of(l...) != want {
					t.Error("another digest")
				}
			}
		})
	}
	all.Wait()
	if !slices.Equal(l, was) || sha.Of(l...) != want {
		t.Error("the list was changed")
	}
}
