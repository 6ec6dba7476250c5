package aead_test

import (
	"encoding/binary"
	"encoding/hex"
	"math/big"
	"math/bits"
	"math/rand"
	"strings"
	"testing"

	"pharos/aead"
	"pharos/api"
)

// What aead answers is held against the chapter's words, written anew: a block as a square whose rows are shifted, a tag by the library's whole numbers of any size.

// square is 16 words, four to a row.
type square [4][4]uint32

// columns mixes each column.
func (s *square) columns() {
	for i := range 4 {
		a, b, c, d := s[0][i], s[1][i], s[2][i], s[3][i]
		a += b
		d = bits.RotateLeft32(d^a, 16)
		c += d
		b = bits.RotateLeft32(b^c, 12)
		a += b
		d = bits.RotateLeft32(d^a, 8)
		c += d
		b = bits.RotateLeft32(b^c, 7)
		s[0][i], s[1][i], s[2][i], s[3][i] = a, b, c, d
	}
}

// shift turns the row i by i places, so that diagonals become columns; or back.
func (s *square) shift(back bool) {
	old := *s
	for i := range 4 {
		for j := range 4 {
			from := (j + i) % 4
			if back {
				from = (j + 4 - i) % 4
			}
			s[i][j] = old[i][from]
		}
	}
}

// modelBlock is the block of a key, a nonce and a number.
func modelBlock(key, nonce string, n uint32) string {
	text := []byte("expand 32-byte k" + key)
	text = binary.LittleEndian.AppendUint32(text, n)
	text = append(text, nonce...)
	var s, first square
	for i := range 16 {
		first[i/4][i%4] = binary.LittleEndian.Uint32(text[4*i:])
	}
	s = first
	for range 10 {
		s.columns()
		s.shift(false)
		s.columns()
		s.shift(true)
	}
	var out []byte
	for i := range 16 {
		out = binary.LittleEndian.AppendUint32(out, s[i/4][i%4]+first[i/4][i%4])
	}
	return string(out)
}

// modelTurned is a text, each byte exclusive or that of the blocks from 1 on.
func modelTurned(key, nonce, s string) string {
	var pad strings.Builder
	for n := uint32(1); pad.Len() < len(s); n++ {
		pad.WriteString(modelBlock(key, nonce, n))
	}
	out := []byte(s)
	for i := range out {
		out[i] ^= pad.String()[i]
	}
	return string(out)
}

// number is the one that bytes are, the lowest first.
func number(s string) *big.Int {
	b := []byte(s)
	for i, j := 0, len(b)-1; i < j; i, j = i+1, j-1 {
		b[i], b[j] = b[j], b[i]
	}
	return new(big.Int).SetBytes(b)
}

// text is the n lowest bytes of a number, the lowest first.
func text(x *big.Int, n int) string {
	var b []byte
	rest := new(big.Int).Set(x)
	for range n {
		low := new(big.Int).And(rest, big.NewInt(255))
		b = append(b, byte(low.Uint64()))
		rest.Rsh(rest, 8)
	}
	return string(b)
}

// power is 2^n + more.
func power(n uint, more int64) *big.Int {
	x := new(big.Int).Lsh(big.NewInt(1), n)
	return x.Add(x, big.NewInt(more))
}

// prime is 2^130 - 5.
func prime() *big.Int {
	return power(130, -5)
}

// factor is r of a key: its first 16 bytes, less the bits that must be 0.
func factor(key string) *big.Int {
	b := []byte(key[:16])
	b[3], b[7], b[11], b[15] = b[3]&15, b[7]&15, b[11]&15, b[15]&15
	b[4], b[8], b[12] = b[4]&252, b[8]&252, b[12]&252
	return number(string(b))
}

// modelSum is a behind all bytes of a text, below 2^130 - 5.
func modelSum(r *big.Int, s string) *big.Int {
	a, p := new(big.Int), prime()
	for len(s) > 0 {
		n := min(16, len(s))
		a.Add(a, number(s[:n]+"\x01"))
		a.Mul(a, r)
		a.Mod(a, p)
		s = s[n:]
	}
	return a
}

// modelTag is the tag of a text by a key.
func modelTag(key, s string) string {
	a := modelSum(factor(key), s)
	return text(a.Add(a, number(key[16:])), 16)
}

// filled is s and bytes 0 up to a multiple of 16.
func filled(s string) string {
	for len(s)%16 != 0 {
		s += "\x00"
	}
	return s
}

// modelBeside is the tag of what was enciphered, c, beside ad.
func modelBeside(key, nonce, ad, c string) string {
	ends := binary.LittleEndian.AppendUint64(nil, uint64(len(ad)))
	ends = binary.LittleEndian.AppendUint64(ends, uint64(len(c)))
	return modelTag(modelBlock(key, nonce, 0)[:32], filled(ad)+filled(c)+string(ends))
}

// modelSeal is what Seal is to answer.
func modelSeal(key, nonce, ad, s string) (string, api.Errno) {
	if len(key) != 32 || len(nonce) != 12 {
		return "", api.ErrArg
	}
	if len(ad) > 65536 || len(s) > 65536 {
		return "", api.ErrLong
	}
	c := modelTurned(key, nonce, s)
	return c + modelBeside(key, nonce, ad, c), api.OK
}

// modelOpen is what Open is to answer.
func modelOpen(key, nonce, ad, s string) (string, api.Errno) {
	if len(key) != 32 || len(nonce) != 12 {
		return "", api.ErrArg
	}
	if len(ad) > 65536 || len(s) > 65552 {
		return "", api.ErrLong
	}
	if len(s) < 16 {
		return "", api.ErrOpen
	}
	c := s[:len(s)-16]
	if s[len(c):] != modelBeside(key, nonce, ad, c) {
		return "", api.ErrOpen
	}
	return modelTurned(key, nonce, c), api.OK
}

// drawn are n bytes.
func drawn(r *rand.Rand, n int) string {
	b := make([]byte, n)
	r.Read(b)
	return string(b)
}

// full are n bytes, each of which has all bits, or none, or is drawn.
func full(r *rand.Rand, n int) string {
	b := make([]byte, n)
	for i := range b {
		switch r.Intn(4) {
		case 0:
			b[i] = 0
		case 1:
			b[i] = byte(r.Intn(256))
		default:
			b[i] = 255
		}
	}
	return string(b)
}

// rising are the bytes from one number up to another.
func rising(from, to int) string {
	var b []byte
	for i := from; i <= to; i++ {
		b = append(b, byte(i))
	}
	return string(b)
}

// hexed is a text out of its hexadecimal digits, with whatever blanks.
func hexed(t testing.TB, s string) string {
	t.Helper()
	b, err := hex.DecodeString(strings.Join(strings.Fields(s), ""))
	if err != nil {
		t.Fatal(err)
	}
	return string(b)
}

// flipped is a text, one of whose bits is another one.
func flipped(s string, bit int) string {
	b := []byte(s)
	b[bit/8] ^= 1 << (bit % 8)
	return string(b)
}

// sizes are lengths of texts: none, around 16 and 64 and their multiples.
func sizes() []int {
	l := []int{0, 1, 2, 7, 8}
	for _, n := range []int{16, 32, 48, 64, 80, 128, 192, 256, 1024} {
		l = append(l, n-1, n, n+1)
	}
	return l
}

// tagged demands that all is well.
func tagged(t testing.TB, key, s string) string {
	t.Helper()
	tag, e := aead.Tag(key, s)
	if e != api.OK || len(tag) != 16 {
		t.Fatalf("Tag of %d bytes: %x, %v", len(s), tag, e)
	}
	return tag
}

// tagIs demands the model's tag.
func tagIs(t testing.TB, key, s string) {
	t.Helper()
	if got, want := tagged(t, key, s), modelTag(key, s); got != want {
		t.Fatalf("Tag of %d bytes by %x: %x, want %x", len(s), key, got, want)
	}
}

// sealed demands that all is well.
func sealed(t testing.TB, key, nonce, ad, s string) string {
	t.Helper()
	c, e := aead.Seal(key, nonce, ad, s)
	if e != api.OK || len(c) != len(s)+16 {
		t.Fatalf("Seal of %d bytes beside %d: %d bytes, %v", len(s), len(ad), len(c), e)
	}
	return c
}

// sealIs demands what the model seals.
func sealIs(t testing.TB, key, nonce, ad, s string) {
	t.Helper()
	got, e := aead.Seal(key, nonce, ad, s)
	if want, f := modelSeal(key, nonce, ad, s); got != want || e != f {
		t.Fatalf("Seal of %d bytes beside %d: %d bytes, %v; want %d, %v", len(s), len(ad), len(got), e, len(want), f)
	}
}

// openIs demands what the model opens, and tells its error.
func openIs(t testing.TB, key, nonce, ad, s string) api.Errno {
	t.Helper()
	got, e := aead.Open(key, nonce, ad, s)
	if want, f := modelOpen(key, nonce, ad, s); got != want || e != f {
		t.Fatalf("Open of %d bytes beside %d: %d bytes, %v; want %d, %v", len(s), len(ad), len(got), e, len(want), f)
	}
	return e
}
