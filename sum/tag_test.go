package sum_test

import (
	"crypto/hmac"
	"crypto/sha256"
	"encoding/hex"
	"math/rand"
	"strings"
	"testing"

	"pharos/sum"
)

// tag is that of s by the library.
func tag(key, s string) string {
	m := hmac.New(sha256.New, []byte(key))
	m.Write([]byte(s))
	return string(m.Sum(nil))
}

// tagIs demands that the tag is the library's.
func tagIs(t testing.TB, key, s string) {
	t.Helper()
	if got, want := sum.Tag(key, s), tag(key, s); got != want {
		t.Fatalf("a key of %d bytes, a text of %d: %x, want %x", len(key), len(s), got, want)
	}
}

// P11.3, W6: tags that are known, written out: the texts of RFC 4231, and no bytes by no key.
func TestTagKnown(t *testing.T) {
	const longer = "This is a test using a larger than block-size key and a larger than block-size data. The key needs to be hashed before being used by the HMAC algorithm."
	var rising []byte
	for i := range 25 {
		rising = append(rising, byte(i+1))
	}
	for _, x := range []struct{ key, s, want string }{
		{strings.Repeat("\x0b", 20), "Hi There", "b0344c61d8db38535ca8afceaf0bf12b881dc200c9833da726e9376c2e32cff7"},
		{"Jefe", "what do ya want for nothing?", "5bdcc146bf60754e6a042426089575c75a003f089d2739839dec58b964ec3843"},
		{strings.Repeat("\xaa", 20), strings.Repeat("\xdd", 50), "773ea91e36800e46854db8ebd09181a72959098b3ef8c122d9635514ced565fe"},
		{string(rising), strings.Repeat("\xcd", 50), "82558a389a443c0ea4cc819899f2083a85f0faa3e578f8077a2e3ff46729665b"},
		{strings.Repeat("\xaa", 131), "Test Using Larger Than Block-Size Key - Hash Key First", "60e431591ee0b67f0d8a26aacbf5b77f8e0bc6213728c5140546040f0ee37f54"},
		{strings.Repeat("\xaa", 131), longer, "9b09ffa71b942fcb27635fbcd5b0e944bfdc63644f0713938a7f51535c3a35e2"},
		{"", "", "b613679a0814d9ec772f95d778c35fc5ff1697c493715653c6c712144292c5ad"},
	} {
		if d := hex.EncodeToString([]byte(sum.Tag(x.key, x.s))); d != x.want {
			t.Errorf("%q, %q: %s", x.key, x.s, d)
		}
	}
}

// P11.3: keys of every length, from no byte to beyond three blocks, with texts of lengths around the edges.
func TestTagEachKey(t *testing.T) {
	r := rand.New(rand.NewSource(121))
	for n := range 200 {
		key := drawn(r, n)
		for _, more := range []int{0, 1, 31, 32, 55, 56, 63, 64, 65, 119, 120, 128, 300} {
			tagIs(t, key, drawn(r, more))
		}
	}
	for _, n := range []int{1 << 10, 1 << 16, 1<<16 + 1} {
		tagIs(t, drawn(r, n), drawn(r, n))
	}
}

// P11.3: texts of every length.
func TestTagEachText(t *testing.T) {
	r := rand.New(rand.NewSource(122))
	for n := range 300 {
		for _, key := range []int{0, 1, 32, 63, 64, 65, 128} {
			tagIs(t, drawn(r, key), drawn(r, n))
		}
	}
}

// P11.3: a key of more than 64 bytes is its digest, one of 64 is not; bytes 0 behind a shorter one change nothing.
func TestTagLongKey(t *testing.T) {
	r := rand.New(rand.NewSource(123))
	for _, n := range []int{0, 1, 31, 32, 33, 62, 63, 64, 65, 66, 127, 128, 129, 1000} {
		key, s := drawn(r, n), drawn(r, 40)
		if same := sum.Tag(key, s) == sum.Tag(sum.Of(key), s); same != (n > 64) {
			t.Errorf("a key of %d bytes: its digest's tag is the same: %v", n, same)
		}
		if same := sum.Tag(key, s) == sum.Tag(key+"\x00", s); same != (n < 64) {
			t.Errorf("a key of %d bytes: one more of 0: the same: %v", n, same)
		}
	}
}

// P11.3: each bit of key and text counts; a byte that goes from one to the other counts.
func TestTagEachBit(t *testing.T) {
	for _, n := range []int{1, 63, 64, 65} {
		seen := map[string]bool{}
		for i := range 8 * n {
			b := make([]byte, n)
			b[i/8] = 1 << (i % 8)
			tagIs(t, string(b), "text")
			tagIs(t, "key", string(b))
			seen[sum.Tag(string(b), "text")] = true
			seen[sum.Tag("key", string(b))] = true
		}
		if len(seen) != 16*n {
			t.Errorf("%d bytes: %d tags", n, len(seen))
		}
	}
	if sum.Tag("key", "text") == sum.Tag("keyt", "ext") || sum.Tag("a", "b") == sum.Tag("b", "a") {
		t.Error("key and text are one")
	}
}
