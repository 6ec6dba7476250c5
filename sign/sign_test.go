package sign_test

import (
	"crypto/ed25519"
	"crypto/sha512"
	"math/big"
	"math/rand"
	"strings"
	"sync"
	"testing"

	"pharos/api"
	"pharos/sign"
)

// The chapter's examples.
func TestExamples(t *testing.T) {
	secret, s := full(7, 32), "some text"
	x := signed(t, secret, s)
	if !sign.Verify(public(t, secret), s, x) {
		t.Error("what was signed")
	}
	if sign.Verify(public(t, secret), s, x[:32]+write(new(big.Int).Add(read(x[32:]), whole))) {
		t.Error("L added")
	}
	if p, e := sign.Public(full(7, 31)); e != api.ErrArg || p != "" {
		t.Errorf("31 bytes: %x %v", p, e)
	}
}

// P14.1, W6: the texts of RFC 8032, 7.1.
func TestKnown(t *testing.T) {
	abc := sha512.Sum512([]byte("abc"))
	for _, x := range []struct{ secret, public, s, signature string }{
		{"9d61b19deffd5a60ba844af492ec2cc44449c5697b326919703bac031cae7f60",
			"d75a980182b10ab7d54bfed3c964073a0ee172f3daa62325af021a68f707511a",
			"",
			"e5564300c360ac729086e2cc806e828a84877f1eb8e5d974d873e065224901555fb8821590a33bacc61e39701cf9b46bd25bf5f0595bbe24655141438e7a100b"},
		{"4ccd089b28ff96da9db6c346ec114e0f5b8a319f35aba624da8cf6ed4fb8a6fb",
			"3d4017c3e843895a92b70aa74d1b7ebc9c982ccf2ec4968cc0cd55f12af4660c",
			"\x72",
			"92a009a9f0d4cab8720e820b5f642540a2b27b5416503f8fb3762223ebdb69da085ac1e43e15996e458f3613d0f11d8c387b2eaeb4302aeeb00d291612bb0c00"},
		{"c5aa8df43f9f837bedb7442f31dcb7b166d38535076f094b85ce3a2e0b4458f7",
			"fc51cd8e6218a1a38da47ed00230f0580816ed13ba3303ac5deb911548908025",
			"\xaf\x82",
			"6291d657deec24024827e69c3abe01a30ce548a284743a445e3680d7db5ac3ac18ff9b538d16f290ae67f760984dc6594a7c15e9716ed28dc027beceea1ec40a"},
		{"833fe62409237b9d62ec77587520911e9a759cec1d19755b7da901b96dca3d42",
			"ec172b93ad5e563bf4932c70e1245034c35467ef2efd4d64ebf819683467e2bf",
			string(abc[:]),
			"dc2a4459e7369633a52b1bf277839a00201009a3efbf3ecb69bea2186c26b58909351fc9ac90b3ecfdfbc7c66431e0303dca179c138ac17ad9bef1177331a704"},
	} {
		secret := hexed(t, x.secret)
		if got := public(t, secret); got != hexed(t, x.public) {
			t.Errorf("%s: public %x", x.secret, got)
		}
		if got := signed(t, secret, x.s); got != hexed(t, x.signature) {
			t.Errorf("%s: signature %x", x.secret, got)
		}
		if !sign.Verify(hexed(t, x.public), x.s, hexed(t, x.signature)) {
			t.Errorf("%s is not verified", x.secret)
		}
	}
}

// secrets are some: of one byte, with one bit, drawn.
func secrets(n int) []string {
	l := []string{full(0, 32), full(255, 32), full(128, 32), full(127, 32), full(1, 32)}
	for i := 0; i < 256; i += 5 {
		l = append(l, turned(full(0, 32), i), turned(full(255, 32), i))
	}
	r := rand.New(rand.NewSource(141))
	for range n {
		l = append(l, drawn(r, 32))
	}
	return l
}

// P14.1, W6: publics and signatures are the library's, whatever the secret is.
func TestSecrets(t *testing.T) {
	for i, secret := range secrets(100) {
		key := ed25519.NewKeyFromSeed([]byte(secret))
		if got := public(t, secret); got != string(key[32:]) {
			t.Fatalf("Public(%x): %x, want %x", secret, got, key[32:])
		}
		s := full(byte(i), i)
		if got, want := signed(t, secret, s), ed25519.Sign(key, []byte(s)); got != string(want) {
			t.Fatalf("Sign(%x), %d bytes: %x, want %x", secret, len(s), got, want)
		}
	}
}

// lengths are numbers of bytes: the first ones, and those around the multiples of 128 that a text ends at, alone, behind the prefix, or behind a point and a public.
func lengths() []int {
	l := []int{0, 1, 2, 3, 31, 32, 33, 63, 64, 65, 95, 96, 97}
	for _, n := range []int{128, 256, 384, 512, 1024, 1 << 14} {
		for _, ahead := range []int{0, 16, 17, 32, 48, 49, 64, 80, 81} {
			l = append(l, n-ahead-1, n-ahead, n-ahead+1)
		}
	}
	return append(l, 1<<16-1, 1<<16, 1<<16+1, 1<<20)
}

// texts are some of each length: of bytes of 128 and above, of 0, and drawn.
func texts() []string {
	r := rand.New(rand.NewSource(142))
	var l []string
	for i, n := range lengths() {
		l = append(l, drawn(r, n), full(128+byte(i), n))
	}
	return append(l, full(0, 1), full(0, 128), full(255, 128), full(128, 129))
}

// P14.1, P14.3, W6: the signatures are the library's, whatever the text is; each end takes the other one's.
func TestTexts(t *testing.T) {
	secret := full(0x9d, 32)
	key, p := ed25519.NewKeyFromSeed([]byte(secret)), public(t, secret)
	for _, s := range texts() {
		x := signed(t, secret, s)
		if want := ed25519.Sign(key, []byte(s)); x != string(want) {
			t.Fatalf("%d bytes: %x, want %x", len(s), x, want)
		}
		if !library(p, s, x) {
			t.Fatalf("%d bytes: the library does not take it", len(s))
		}
		verifies(t, true, "what was signed", p, s, x)
	}
}

// P14.1: each part, as the chapter's words have it.
func TestAsWritten(t *testing.T) {
	for i, secret := range secrets(20) {
		d := sha512.Sum512([]byte(secret))
		prefix, clamped := string(d[32:]), d[:32]
		clamped[0] &= 248
		clamped[31] = clamped[31]&127 | 64
		a, s := read(string(clamped)), full(byte(200+i), 3*i)
		p := times(t, a).Bytes()
		if got := public(t, secret); got != p {
			t.Fatalf("Public(%x): %x, want %x", secret, got, p)
		}
		r := digest(prefix, s)
		first := times(t, r).Bytes()
		k := digest(first, p, s)
		last := k.Mul(k, a).Add(k, r)
		if got, want := signed(t, secret, s), first+write(last.Mod(last, whole)); got != want {
			t.Fatalf("Sign(%x): %x, want %x", secret, got, want)
		}
	}
}

// P14.1, R2: a secret that has not 32 bytes is ErrArg, whatever is in it and whatever the text is, and nothing is beside it.
func TestNotASecret(t *testing.T) {
	for _, n := range []int{0, 1, 16, 30, 31, 33, 34, 63, 64, 65, 96, 1000} {
		for _, c := range []byte{0, 1, 127, 128, 255} {
			if p, e := sign.Public(full(c, n)); e != api.ErrArg || p != "" {
				t.Errorf("Public of %d bytes %d: %x %v", n, c, p, e)
			}
			for _, s := range []string{"", "some text", full(128, 129)} {
				if x, e := sign.Sign(full(c, n), s); e != api.ErrArg || x != "" {
					t.Errorf("Sign by %d bytes %d: %x %v", n, c, x, e)
				}
			}
		}
	}
}

// P14.3: what Sign makes is verified, by Public of the secret, and the text; and by no other public, nor for another text.
func TestFollows(t *testing.T) {
	r := rand.New(rand.NewSource(143))
	before := public(t, full(3, 32))
	for i := range 150 {
		secret, s := drawn(r, 32), drawn(r, i)
		p, x := public(t, secret), signed(t, secret, s)
		verifies(t, true, "what was signed", p, s, x)
		verifies(t, false, "another public", before, s, x)
		verifies(t, false, "a longer text", p, s+"\x00", x)
		verifies(t, false, "a text with more ahead", p, "\x00"+s, x)
		if i > 0 {
			verifies(t, false, "a shorter text", p, s[1:], x)
			verifies(t, false, "no text", p, "", x)
		}
		before = p
	}
}

// P14.1: a text is signed in one way only, and another one in another way, in both halves.
func TestSignaturesDiffer(t *testing.T) {
	secret := full(42, 32)
	halves := map[string]string{}
	for _, s := range []string{"", "\x00", "\x00\x00", "a", "b", "ab", strings.Repeat("a", 128), strings.Repeat("a", 129)} {
		x := signed(t, secret, s)
		if x != signed(t, secret, s) {
			t.Errorf("%q is signed in two ways", s)
		}
		for _, half := range []string{x[:32], x[32:]} {
			if other, is := halves[half]; is {
				t.Errorf("%q and %q share %x", s, other, half)
			}
			halves[half] = s
		}
	}
}

// R6: a call's answer does not hang on the calls before or beside it.
func TestBeside(t *testing.T) {
	list := secrets(0)[:16]
	var wait sync.WaitGroup
	for i, secret := range list {
		p, x := public(t, secret), signed(t, secret, full(byte(i), i))
		wait.Go(func() {
			for range 5 {
				if got, _ := sign.Public(secret); got != p {
					t.Errorf("Public(%x): %x, want %x", secret, got, p)
				}
				if got, _ := sign.Sign(secret, full(byte(i), i)); got != x {
					t.Errorf("Sign(%x): %x, want %x", secret, got, x)
				}
				if !sign.Verify(p, full(byte(i), i), x) || sign.Verify(p, full(byte(i), i+1), x) {
					t.Errorf("Verify by %x", p)
				}
			}
		})
	}
	wait.Wait()
}
