package sum_test

import (
	"crypto/sha256"
	"encoding/hex"
	"math/rand"
	"strings"
	"sync"
	"testing"

	"pharos/sum"
)

// library is the digest of s by the library.
func library(s string) string {
	d := sha256.Sum256([]byte(s))
	return string(d[:])
}

// is demands that the digest of s is the library's.
func is(t testing.TB, s string) {
	t.Helper()
	if got, want := sum.Of(s), library(s); got != want {
		t.Fatalf("%d bytes: %x, want %x", len(s), got, want)
	}
}

// drawn are n bytes.
func drawn(r *rand.Rand, n int) string {
	b := make([]byte, n)
	r.Read(b)
	return string(b)
}

// The chapter's examples of Of.
func TestExamples(t *testing.T) {
	for _, x := range []struct{ s, first string }{
		{"", "e3b0c44298fc1c14"},
		{"abc", "ba7816bf8f01cfea"},
	} {
		if d := hex.EncodeToString([]byte(sum.Of(x.s))); len(d) != 64 || d[:16] != x.first {
			t.Errorf("%q: %s", x.s, d)
		}
	}
}

// P11.1, W6: digests that are known, written out, the texts of RFC 6234, section 8.5, among them.
func TestKnown(t *testing.T) {
	const long = "abcdbcdecdefdefgefghfghighijhijkijkljklmklmnlmnomnopnopq"
	for _, x := range []struct{ s, want string }{
		{"", "e3b0c44298fc1c149afbf4c8996fb92427ae41e4649b934ca495991b7852b855"},
		{"abc", "ba7816bf8f01cfea414140de5dae2223b00361a396177a9cb410ff61f20015ad"},
		{long, "248d6a61d20638b8e5c026930c3e6039a33ce45964ff2167f6ecedd419db06c1"},
		{strings.Repeat("a", 1000000), "cdc76e5c9914fb9281a1c7e284d73e67f1809a48a497200e046d39ccc7112cd0"},
		{strings.Repeat("01234567", 80), "594847328451bdfa85056225462cc1d867d877fb388df0ce35f25ab5562bfbb5"},
	} {
		if d := hex.EncodeToString([]byte(sum.Of(x.s))); d != x.want {
			t.Errorf("%d bytes: %s", len(x.s), d)
		}
	}
}

// P11.1: every length up to seventeen blocks, of bytes 0, of bytes 255, of bytes 128 (as the one that stands behind), and of drawn ones.
func TestEachLength(t *testing.T) {
	r := rand.New(rand.NewSource(112))
	for n := range 17*64 + 2 {
		is(t, strings.Repeat("\x00", n))
		is(t, strings.Repeat("\xff", n))
		is(t, strings.Repeat("\x80", n))
		is(t, drawn(r, n))
	}
}

// P11.1: lengths around the edges of many blocks.
func TestLengthsAroundEdges(t *testing.T) {
	r := rand.New(rand.NewSource(113))
	all := drawn(r, 1<<19+128)
	for _, blocks := range []int{1, 2, 3, 4, 15, 16, 63, 255, 256, 511, 512, 1000, 8191, 8192} {
		for _, edge := range []int{0, 55, 56, 63} {
			for more := -1; more <= 1; more++ {
				is(t, all[:blocks*64+edge+more])
			}
		}
	}
}

// P11.1: each byte counts with all its bits, wherever it stands.
func TestEachBit(t *testing.T) {
	for _, n := range []int{1, 55, 56, 63, 64, 65, 128} {
		seen := map[string]bool{sum.Of(strings.Repeat("\x00", n)): true}
		for i := range 8 * n {
			b := make([]byte, n)
			b[i/8] = 1 << (i % 8)
			is(t, string(b))
			seen[sum.Of(string(b))] = true
		}
		if len(seen) != 8*n+1 {
			t.Errorf("%d bytes: %d digests", n, len(seen))
		}
	}
}

// P11.1: a text that has, as its own bytes, what stands behind a shorter one has another digest.
func TestLooksLikeTheEnd(t *testing.T) {
	whole := "abc\x80" + strings.Repeat("\x00", 59) + "\x18"
	seen := map[string]bool{}
	for _, s := range []string{"abc", "abc\x80", "abc\x80\x00", "abc\x00", "\x00abc", whole[:56], whole, whole + "\x80"} {
		is(t, s)
		seen[sum.Of(s)] = true
	}
	if len(seen) != 8 {
		t.Errorf("%d digests", len(seen))
	}
}

// P11.1, P11.2: from 2^29 bytes on the bits are more than a word of 32 bits tells.
func TestManyBytes(t *testing.T) {
	if testing.Short() {
		t.Skip("takes seconds")
	}
	piece := drawn(rand.New(rand.NewSource(114)), 1<<20)
	got, want := sum.New(), sha256.New()
	for range 512 {
		got.Add(piece)
		want.Write([]byte(piece))
	}
	for range 2 {
		if got.Sum() != string(want.Sum(nil)) {
			t.Fatalf("%x, want %x", got.Sum(), want.Sum(nil))
		}
		got.Add("end")
		want.Write([]byte("end"))
	}
}

// R6: a call's answer does not hang on the calls before or beside it.
func TestNothingIsShared(t *testing.T) {
	var all sync.WaitGroup
	for k := range 8 {
		all.Go(func() {
			h, s := sum.New(), ""
			for i := range 200 {
				piece := strings.Repeat(string(rune('a'+k)), i)
				h.Add(piece)
				s += piece
				if h.Sum() != library(s) || sum.Of(piece) != library(piece) || sum.Tag(piece, s) != tag(piece, s) {
					t.Error("another digest")
				}
			}
		})
	}
	all.Wait()
}
