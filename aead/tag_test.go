package aead_test

import (
	"math/big"
	"math/rand"
	"strings"
	"testing"

	"pharos/aead"
	"pharos/api"
)

// The chapter's example of Tag.
func TestExampleTag(t *testing.T) {
	zero := strings.Repeat("\x00", 31)
	if tag := tagged(t, "\x02"+zero, strings.Repeat("\xff", 16)); tag != "\x03"+zero[:15] {
		t.Errorf("%x", tag)
	}
}

// P13.2, W6: the tags of RFC 8439, 2.5.2 and, of appendix A.3, those that are at an edge.
func TestTagKnown(t *testing.T) {
	zeros := strings.Repeat("00", 16)
	ones := strings.Repeat("ff", 16)
	one, two := "01"+zeros[2:], "02"+zeros[2:]
	far := "01000000000000000400000000000000"
	wide := "e33594d7505e43b900000000000000003394d7505e4379cd01000000000000000000000000000000"
	for i, x := range []struct{ r, s, text, want string }{
		{"85d6be7857556d337f4452fe42d506a8", "0103808afb0db2fd4abff6af4149f51b",
			"43727970746f6772617068696320466f72756d2052657365617263682047726f7570", "a8061dc1305136c6c22b8baf0c0127a9"},
		{zeros, zeros, strings.Repeat("00", 64), zeros},
		{two, zeros, ones, "03" + zeros[2:]},
		{two, ones, "02" + zeros[2:], "03" + zeros[2:]},
		{one, zeros, ones + "f0" + ones[2:] + "11" + zeros[2:], "05" + zeros[2:]},
		{one, zeros, ones + "fb" + strings.Repeat("fe", 15) + strings.Repeat("01", 16), zeros},
		{two, zeros, "fd" + ones[2:], "fa" + ones[2:]},
		{far, zeros, wide + "0000000000000000" + "01000000000000000000000000000000", "14000000000000005500000000000000"},
		{far, zeros, wide + "0000000000000000", "13000000000000000000000000000000"},
	} {
		if tag := tagged(t, hexed(t, x.r+x.s), hexed(t, x.text)); tag != hexed(t, x.want) {
			t.Errorf("%d: %x", i, tag)
		}
	}
}

// P13.2: texts of each length, drawn ones and those full of bits.
func TestTag(t *testing.T) {
	r := rand.New(rand.NewSource(132))
	ones := strings.Repeat("\xff", 600)
	for n := range 600 {
		tagIs(t, drawn(r, 32), drawn(r, n))
		tagIs(t, full(r, 32), full(r, n))
		tagIs(t, ones[:32], ones[:n])
		tagIs(t, drawn(r, 32), ones[:n])
		tagIs(t, ones[:32], strings.Repeat("\x00", n))
	}
	for _, n := range []int{4095, 4096, 4097, 65535, 65536, 65537, 65552, 1 << 20} {
		tagIs(t, drawn(r, 32), drawn(r, n))
		tagIs(t, ones[:32], strings.Repeat("\xff", n))
	}
}

// P13.2: of no byte the tag is the key's second half; a byte 0 behind a text is a byte of it.
func TestTagEnds(t *testing.T) {
	r := rand.New(rand.NewSource(133))
	for range 100 {
		key := drawn(r, 32)
		if tagged(t, key, "") != key[16:] {
			t.Fatalf("of no byte: %x", tagged(t, key, ""))
		}
		s := drawn(r, 1+r.Intn(80))
		if tagged(t, key, s) == tagged(t, key, s+"\x00") || tagged(t, key, s) == tagged(t, key, "\x00"+s) {
			t.Fatalf("a byte 0 is none, at %d bytes", len(s))
		}
	}
}

// P13.2: r alone has bits that do not count, and they are those that the chapter names.
func TestTagEachBitOfTheKey(t *testing.T) {
	r := rand.New(rand.NewSource(134))
	free := map[int]bool{}
	for _, i := range []int{3, 7, 11, 15} {
		free[8*i+4], free[8*i+5], free[8*i+6], free[8*i+7] = true, true, true, true
	}
	for _, i := range []int{4, 8, 12} {
		free[8*i], free[8*i+1] = true, true
	}
	for range 20 {
		key, s := drawn(r, 32), drawn(r, 1+r.Intn(50))
		for i := range 8 * 32 {
			other := flipped(key, i)
			tagIs(t, other, s)
			if (tagged(t, other, s) == tagged(t, key, s)) != free[i] {
				t.Fatalf("the bit %d of the key", i)
			}
		}
	}
}

// P13.2: each bit of a text counts.
func TestTagEachBitOfTheText(t *testing.T) {
	r := rand.New(rand.NewSource(135))
	key := drawn(r, 32)
	for _, n := range []int{1, 15, 16, 17, 32, 40} {
		s := drawn(r, n)
		seen := map[string]bool{tagged(t, key, s): true}
		for i := range 8 * n {
			tagIs(t, key, flipped(s, i))
			seen[tagged(t, key, flipped(s, i))] = true
		}
		if len(seen) != 8*n+1 {
			t.Errorf("%d bytes: %d tags", n, len(seen))
		}
	}
}

// spread are count blocks of 16 bytes that make this sum, each with its byte 1 behind it.
func spread(sum *big.Int, count int) (string, bool) {
	rest := new(big.Int).Sub(sum, new(big.Int).Mul(power(128, 0), big.NewInt(int64(count))))
	s := ""
	for range count {
		x := new(big.Int).Set(rest)
		if x.Sign() < 0 {
			return "", false
		}
		if most := power(128, -1); x.Cmp(most) > 0 {
			x = most
		}
		s += text(x, 16)
		rest.Sub(rest, x)
	}
	return s, rest.Sign() == 0
}

// P13.2: by r = 1, sums at each step around 2^130 - 5, 2^130, and multiples of both.
func TestTagSumsAroundThePrime(t *testing.T) {
	tried := 0
	for _, second := range []string{strings.Repeat("\x00", 16), strings.Repeat("\xff", 16), "\x05" + strings.Repeat("\x00", 15)} {
		key := "\x01" + strings.Repeat("\x00", 15) + second
		for count := 1; count <= 9; count++ {
			for times := int64(1); times <= 4; times++ {
				for more := int64(-12); more <= 30; more++ {
					sum := new(big.Int).Mul(prime(), big.NewInt(times))
					s, is := spread(sum.Add(sum, big.NewInt(more)), count)
					if is {
						tried++
						tagIs(t, key, s)
					}
				}
			}
		}
	}
	if tried < 1000 {
		t.Fatalf("%d sums say little", tried)
	}
}

// targets are numbers below 2^130 - 5 at its edges, at those of a tag's bytes and of parts of a number.
func targets() []*big.Int {
	var l []*big.Int
	p := prime()
	for more := int64(0); more <= 8; more++ {
		l = append(l, big.NewInt(more), power(130, -6-more))
	}
	for _, n := range []uint{26, 32, 44, 52, 64, 78, 88, 96, 104, 120, 127, 128, 129} {
		for more := int64(-6); more <= 6; more++ {
			low := power(n, more)
			l = append(l, low, new(big.Int).Sub(p, low))
		}
	}
	return append(l, new(big.Int).Mul(power(128, 0), big.NewInt(3)))
}

// reaching is a text of two blocks that, by r, comes to the target.
func reaching(d *rand.Rand, r, target *big.Int) string {
	p := prime()
	back := new(big.Int).ModInverse(r, p)
	before := new(big.Int).Mul(target, back)
	for {
		first := drawn(d, 16)
		x := new(big.Int).Sub(before, modelSum(r, first))
		x.Mod(x, p)
		if x.BitLen() == 129 {
			return first + text(x, 16)
		}
	}
}

// P13.2: numbers at each edge, reached by drawn keys; the key's second half is added to them as they are, and what is above 16 bytes is let go.
func TestTagOfTargets(t *testing.T) {
	d := rand.New(rand.NewSource(136))
	for _, target := range targets() {
		for range 4 {
			first := drawn(d, 16)
			s := reaching(d, factor(first), target)
			for _, second := range []string{strings.Repeat("\x00", 16), strings.Repeat("\xff", 16), drawn(d, 16)} {
				sum := new(big.Int).Add(target, number(second))
				if got := tagged(t, first+second, s); got != text(sum, 16) {
					t.Fatalf("%x: %x, want %x", target, got, text(sum, 16))
				}
				tagIs(t, first+second, s)
			}
		}
	}
}

// P13.5: a key's second half is added to the tag at the end, modulo 2^128.
func TestSecondHalfIsAdded(t *testing.T) {
	r := rand.New(rand.NewSource(137))
	for range 1000 {
		first, s := full(r, 16), full(r, r.Intn(100))
		bare := number(tagged(t, first+strings.Repeat("\x00", 16), s))
		for _, second := range []string{drawn(r, 16), full(r, 16), strings.Repeat("\xff", 16), "\x01" + strings.Repeat("\x00", 15)} {
			want := text(new(big.Int).Add(bare, number(second)), 16)
			if got := tagged(t, first+second, s); got != want {
				t.Fatalf("%x: %x, want %x", second, got, want)
			}
		}
	}
}

// P13.2, R2: a key that has not 32 bytes: nothing beside the error.
func TestTagRefused(t *testing.T) {
	for _, n := range []int{0, 1, 15, 16, 17, 31, 33, 34, 48, 63, 64, 65, 1000} {
		for _, s := range []string{"", "text", strings.Repeat("t", 1000)} {
			if tag, e := aead.Tag(strings.Repeat("k", n), s); e != api.ErrArg || tag != "" {
				t.Errorf("a key of %d bytes: %x, %v", n, tag, e)
			}
		}
	}
	if tag, e := aead.Tag(strings.Repeat("é", 32), "text"); e != api.ErrArg || tag != "" {
		t.Errorf("a key of 32 letters: %x, %v", tag, e)
	}
	tagIs(t, strings.Repeat("é", 16), "text")
}

// P13.2: Same tells equal texts as the same.
func TestSameIs(t *testing.T) {
	r := rand.New(rand.NewSource(138))
	for n := range 200 {
		s := drawn(r, n)
		if !aead.Same(s, strings.Clone(s)) {
			t.Errorf("%x is not itself", s)
		}
	}
}

// P13.2: Same tells texts apart of which one bit is another one, wherever it stands.
func TestSameEachBit(t *testing.T) {
	r := rand.New(rand.NewSource(139))
	for _, n := range []int{1, 2, 15, 16, 17, 33} {
		s := drawn(r, n)
		for i := range 8 * n {
			if aead.Same(s, flipped(s, i)) || aead.Same(flipped(s, i), s) {
				t.Errorf("%d bytes, the bit %d", n, i)
			}
			for j := range i { // two that are alike do not make up for one another
				if aead.Same(s, flipped(flipped(s, i), j)) {
					t.Errorf("%d bytes, the bits %d and %d", n, i, j)
				}
			}
		}
	}
}

// P13.2: Same tells texts apart of which one is the beginning or the end of the other, none among them.
func TestSameLengths(t *testing.T) {
	for _, s := range []string{"\x00", "a", "abc", "\x00\x00", "\xff\xff", "éé"} {
		for i := range len(s) {
			for _, part := range []string{s[:i], s[i+1:]} {
				if aead.Same(s, part) || aead.Same(part, s) {
					t.Errorf("%x and %x", s, part)
				}
			}
		}
	}
	if !aead.Same("", "") {
		t.Error("none and none")
	}
}

// P13.2: bytes of 128 and above that are no letters are told apart, too.
func TestSameHighBytes(t *testing.T) {
	for i := range 256 {
		for j := range 256 {
			a, b := string([]byte{byte(i)}), string([]byte{byte(j)})
			if aead.Same(a, b) != (i == j) || aead.Same("x"+a, "x"+b) != (i == j) {
				t.Fatalf("%d and %d", i, j)
			}
		}
	}
	if aead.Same("\xff\xfe\xfd", "\ufffd") || aead.Same("\ufffd", "\xff\xff\xff") {
		t.Error("bytes that are no letter are as the letter that stands for them")
	}
}
