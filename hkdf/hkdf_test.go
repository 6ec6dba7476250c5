package hkdf_test

import (
	library "crypto/hkdf"
	"crypto/hmac"
	"crypto/sha256"
	"encoding/hex"
	"math"
	"math/rand"
	"strings"
	"sync"
	"testing"

	"pharos/api"
	"pharos/hkdf"
	"pharos/sum"
)

// edges are numbers of bytes around all that the chapter names.
func edges() []int {
	l := []int{0, 1, 2, 15, 16}
	for _, pieces := range []int{1, 2, 3, 7, 8, 127, 128, 129, 253, 254} {
		l = append(l, 32*pieces-1, 32*pieces, 32*pieces+1)
	}
	return append(l, 255, 256, 257, 8158, 8159, 8160)
}

// lengths are numbers of bytes from 0 to 8160: each of the first and of the last, and some between.
func lengths() []int {
	var l []int
	for n := 0; n <= 8160; n++ {
		if n < 1100 || n > 8060 || n%61 == 0 {
			l = append(l, n)
		}
	}
	return l
}

// beyond are numbers of bytes that are refused; the last ones look like lesser ones, if their high bits are lost.
func beyond() []int {
	return []int{-1, -2, -16, -32, -8160, 8161, 8162, 8191, 8192, 1<<16 - 1, 1 << 16, 1<<16 + 16, math.MaxInt32, math.MinInt32, math.MaxInt, math.MinInt, math.MinInt + 16}
}

// drawn are n bytes.
func drawn(r *rand.Rand, n int) string {
	b := make([]byte, n)
	r.Read(b)
	return string(b)
}

// rising are the bytes from one number up to another.
func rising(from, to int) string {
	var b []byte
	for i := from; i <= to; i++ {
		b = append(b, byte(i))
	}
	return string(b)
}

// hexed is a text out of its hexadecimal digits.
func hexed(t testing.TB, s string) string {
	t.Helper()
	b, err := hex.DecodeString(s)
	if err != nil {
		t.Fatal(err)
	}
	return string(b)
}

// tag is that of s by the library.
func tag(key, s string) string {
	m := hmac.New(sha256.New, []byte(key))
	m.Write([]byte(s))
	return string(m.Sum(nil))
}

// model is the chapter's words: all 255 pieces, cut.
func model(key, info string, n int) string {
	all, last := "", ""
	for i := 1; i <= 255; i++ {
		last = tag(key, last+info+string([]byte{byte(i)}))
		all += last
	}
	return all[:n]
}

// expanded demands that all is well.
func expanded(t testing.TB, key, info string, n int) string {
	t.Helper()
	s, e := hkdf.Expand(key, info, n)
	if e != api.OK || len(s) != n {
		t.Fatalf("Expand, %d bytes: %d bytes, %v", n, len(s), e)
	}
	return s
}

// expandIs demands that the bytes are the library's.
func expandIs(t testing.TB, key, info string, n int) {
	t.Helper()
	want, err := library.Expand(sha256.New, []byte(key), info, n)
	if err != nil {
		t.Fatal(err)
	}
	if got := expanded(t, key, info, n); got != string(want) {
		t.Fatalf("a key of %d bytes, an info of %d, %d bytes: %x, want %x", len(key), len(info), n, got, want)
	}
}

// The chapter's examples of Expand.
func TestExampleExpand(t *testing.T) {
	for n, want := range map[int]api.Errno{0: api.OK, 8160: api.OK, 8161: api.ErrArg, -1: api.ErrArg} {
		s, e := hkdf.Expand("k", "i", n)
		if e != want || e == api.OK && len(s) != n || e != api.OK && s != "" {
			t.Errorf("%d bytes: %d bytes, %v", n, len(s), e)
		}
	}
}

// P12.1, W6: the texts of RFC 5869, appendix A.1 to A.3.
func TestKnown(t *testing.T) {
	same := strings.Repeat("\x0b", 22)
	for i, x := range []struct{ salt, s, info, key, out string }{
		{rising(0, 12), same, rising(240, 249),
			"077709362c2e32df0ddc3f0dc47bba6390b6c73bb50f9c3122ec844ad7c2b3e5",
			"3cb25f25faacd57a90434f64d0362f2a2d2d0a90cf1a5a4c5db02d56ecc4c5bf34007208d5b887185865"},
		{rising(0x60, 0xaf), rising(0, 0x4f), rising(0xb0, 0xff),
			"06a6b88c5853361a06104c9ceb35b45cef760014904671014a193f40c15fc244",
			"b11e398dc80327a1c8e7f78c596a49344f012eda2d4efad8a050cc4c19afa97c59045a99cac7827271cb41c65e590e09da3275600c2f09b8367793a9aca3db71cc30c58179ec3e87c14c01d5c1f3434f1d87"},
		{"", same, "",
			"19ef24a32c717b167f33a91d6f648bdf96596776afdb6377ac434c1c293ccb04",
			"8da4e775a563c18f715f802a063c5a31b8a11f5c5ee1879ec3454e5f3c738d2d9d201395faa4b61a96c8"},
	} {
		key := hkdf.Extract(x.salt, x.s)
		if key != hexed(t, x.key) {
			t.Errorf("A.%d: the key: %x", i+1, key)
		}
		want := hexed(t, x.out)
		if got := expanded(t, key, x.info, len(want)); got != want {
			t.Errorf("A.%d: %x", i+1, got)
		}
	}
}

// P12.1: salts and bytes of every length around the edges of the tag's blocks, none among them.
func TestExtract(t *testing.T) {
	r := rand.New(rand.NewSource(121))
	sizes := []int{0, 1, 31, 32, 33, 55, 56, 63, 64, 65, 127, 128, 129, 1000, 1 << 16}
	for _, n := range sizes {
		for _, m := range sizes {
			salt, s := drawn(r, n), drawn(r, m)
			want, err := library.Extract(sha256.New, []byte(s), []byte(salt))
			if err != nil {
				t.Fatal(err)
			}
			if got := hkdf.Extract(salt, s); got != string(want) || got != sum.Tag(salt, s) || got != tag(salt, s) {
				t.Fatalf("a salt of %d bytes, %d bytes: %x, want %x", n, m, got, want)
			}
		}
	}
}

// P12.1: no salt is as 32 bytes 0 are; salt and bytes do not change places.
func TestExtractSalt(t *testing.T) {
	if hkdf.Extract("", "s") != hkdf.Extract(strings.Repeat("\x00", 32), "s") {
		t.Error("no salt is not as bytes 0")
	}
	if hkdf.Extract("a", "b") == hkdf.Extract("b", "a") || hkdf.Extract("ab", "") == hkdf.Extract("a", "b") {
		t.Error("salt and bytes are one")
	}
}

// P12.1: numbers of bytes from 0 to 8160, as the chapter's words have it.
func TestExpandEachLength(t *testing.T) {
	key, info := "key\x00\xff", "info\x00\xff\x80"
	want := model(key, info, 8160)
	for _, n := range lengths() {
		if got := expanded(t, key, info, n); got != want[:n] {
			t.Fatalf("%d bytes are others", n)
		}
	}
}

// P12.1: keys and infos of every length, none among them, against the library.
func TestExpandKeysAndInfos(t *testing.T) {
	r := rand.New(rand.NewSource(122))
	for n := range 140 {
		for _, many := range []int{0, 1, 31, 32, 33, 64, 65, 100} {
			expandIs(t, drawn(r, n), drawn(r, 10), many)
			expandIs(t, drawn(r, 32), drawn(r, n), many)
			expandIs(t, "", drawn(r, n), many)
			expandIs(t, drawn(r, n), "", many)
		}
	}
	for _, n := range []int{1000, 1 << 16, 1 << 20} {
		expandIs(t, drawn(r, n), drawn(r, 3), 100)
		expandIs(t, drawn(r, 3), drawn(r, n), 100)
	}
	expandIs(t, "", "", 8160)
}

// P12.1: at the edges, the library's bytes, of drawn keys and infos.
func TestExpandEdges(t *testing.T) {
	r := rand.New(rand.NewSource(123))
	for _, n := range edges() {
		for range 4 {
			expandIs(t, drawn(r, r.Intn(100)), drawn(r, r.Intn(100)), n)
		}
	}
}

// P12.1: each piece is the tag of the one ahead, the info, and the piece's number as one byte, beyond 127, too.
func TestExpandPieces(t *testing.T) {
	key, info := "key", "info"
	all := expanded(t, key, info, 8160)
	ahead := ""
	for i := 1; i <= 255; i++ {
		piece := all[32*(i-1) : 32*i]
		if want := sum.Tag(key, ahead+info+string([]byte{byte(i)})); piece != want {
			t.Fatalf("the piece %d: %x, want %x", i, piece, want)
		}
		ahead = piece
	}
}

// P12.1, R2: what is refused answers nothing beside the error, whatever key and info are.
func TestExpandRefused(t *testing.T) {
	for _, n := range beyond() {
		for _, key := range []string{"", "key", strings.Repeat("k", 100)} {
			for _, info := range []string{"", "info", strings.Repeat("i", 100)} {
				if s, e := hkdf.Expand(key, info, n); e != api.ErrArg || s != "" {
					t.Errorf("%d bytes: %d bytes, %v", n, len(s), e)
				}
			}
		}
	}
}

// P12.3: fewer bytes are the beginning of more, of each two of the edges.
func TestFewerAreTheBeginning(t *testing.T) {
	r := rand.New(rand.NewSource(124))
	for range 3 {
		key, info := drawn(r, r.Intn(80)), drawn(r, r.Intn(80))
		for _, n := range edges() {
			more := expanded(t, key, info, n)
			for _, m := range edges() {
				if m <= n && !strings.HasPrefix(more, expanded(t, key, info, m)) {
					t.Fatalf("%d bytes do not begin as %d", n, m)
				}
			}
		}
	}
}

// P12.1: each bit of key and info counts, and to which of them a byte belongs.
func TestExpandEachBit(t *testing.T) {
	const n = 33
	seen := map[string]bool{}
	for i := range 8 * n {
		b := make([]byte, n)
		b[i/8] = 1 << (i % 8)
		seen[expanded(t, string(b), "info", 16)] = true
		seen[expanded(t, "key", string(b), 16)] = true
	}
	if len(seen) != 16*n {
		t.Errorf("%d answers", len(seen))
	}
	if expanded(t, "ab", "c", 32) == expanded(t, "a", "bc", 32) || expanded(t, "a", "b", 32) == expanded(t, "b", "a", 32) {
		t.Error("key and info are one")
	}
}

// R6: a call's answer does not hang on the calls before or beside it.
func TestNothingIsShared(t *testing.T) {
	var all sync.WaitGroup
	for k := range 8 {
		key := strings.Repeat(string(rune('a'+k)), k)
		want := model(key, "info", 8160)
		salted := tag(key, "text")
		info := labelInfo("label", key, 40)
		labelled := model(key, info, 40)
		all.Go(func() {
			for i := range 150 {
				s, e := hkdf.Expand(key, "info", i)
				l, f := hkdf.Label(key, "label", key, 40)
				if e != api.OK || f != api.OK || s != want[:i] || l != labelled || hkdf.Extract(key, "text") != salted {
					t.Error("another answer")
				}
			}
		})
	}
	all.Wait()
}
