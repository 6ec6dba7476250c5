package aead_test

import (
	"crypto/ecdh"
	"crypto/hkdf"
	"crypto/hpke"
	"crypto/sha256"
	"encoding/binary"
	"math/rand"
	"testing"
)

// The library has this cipher only inside of HPKE (RFC 9180). So the tests reckon that scheme's key and nonce themselves, seal by aead as its sender would, and let the library open it.

// suite is what HPKE puts ahead of its labels: X25519, HKDF of SHA-256, ChaCha20-Poly1305.
const suite = "HPKE\x00\x20\x00\x01\x00\x03"

// extract is HPKE's LabeledExtract.
func extract(t testing.TB, salt, suite, label, s string) string {
	t.Helper()
	b, err := hkdf.Extract(sha256.New, []byte("HPKE-v1"+suite+label+s), []byte(salt))
	if err != nil {
		t.Fatal(err)
	}
	return string(b)
}

// expand is HPKE's LabeledExpand.
func expand(t testing.TB, key, suite, label, info string, n int) string {
	t.Helper()
	length := string(binary.BigEndian.AppendUint16(nil, uint16(n)))
	b, err := hkdf.Expand(sha256.New, []byte(key), length+"HPKE-v1"+suite+label+info, n)
	if err != nil {
		t.Fatal(err)
	}
	return string(b)
}

// exchange is a key of both ends of HPKE: its key and its first nonce, and the library's end that opens.
func exchange(t testing.TB, r *rand.Rand) (string, string, *hpke.Recipient) {
	t.Helper()
	ours, err := ecdh.X25519().NewPrivateKey([]byte(drawn(r, 32)))
	if err != nil {
		t.Fatal(err)
	}
	theirs, err := ecdh.X25519().NewPrivateKey([]byte(drawn(r, 32)))
	if err != nil {
		t.Fatal(err)
	}
	both, err := ours.ECDH(theirs.PublicKey())
	if err != nil {
		t.Fatal(err)
	}
	publics := string(ours.PublicKey().Bytes()) + string(theirs.PublicKey().Bytes())
	shared := expand(t, extract(t, "", "KEM\x00\x20", "eae_prk", string(both)), "KEM\x00\x20", "shared_secret", publics, 32)
	context := "\x00" + extract(t, "", suite, "psk_id_hash", "") + extract(t, "", suite, "info_hash", "")
	secret := extract(t, shared, suite, "secret", "")
	key := expand(t, secret, suite, "key", context, 32)
	nonce := expand(t, secret, suite, "base_nonce", context, 12)

	private, err := hpke.NewDHKEMPrivateKey(theirs)
	if err != nil {
		t.Fatal(err)
	}
	end, err := hpke.NewRecipient(ours.PublicKey().Bytes(), private, hpke.HKDFSHA256(), hpke.ChaCha20Poly1305(), nil)
	if err != nil {
		t.Fatal(err)
	}
	return key, nonce, end
}

// counted is the first nonce, whose last bytes are exclusive or the count's.
func counted(nonce string, count uint64) string {
	b := []byte(nonce)
	binary.BigEndian.PutUint64(b[4:], binary.BigEndian.Uint64(b[4:])^count)
	return string(b)
}

// P13.3, W6: the library opens what was sealed, of every length of the edges, as the text and beside it.
func TestLibraryOpens(t *testing.T) {
	r := rand.New(rand.NewSource(151))
	lengths := append(sizes(), 65535, 65536)
	for _, n := range lengths {
		key, nonce, end := exchange(t, r)
		for count, m := range lengths {
			ad, s := full(r, m), full(r, n)
			c := sealed(t, key, counted(nonce, uint64(count)), ad, s)
			got, err := end.Open([]byte(ad), []byte(c))
			if err != nil || string(got) != s {
				t.Fatalf("%d bytes beside %d: %d bytes, %v", n, m, len(got), err)
			}
		}
	}
}

// P13.4, W6: what the library does not open does not open.
func TestLibraryRefuses(t *testing.T) {
	r := rand.New(rand.NewSource(152))
	for range 20 {
		key, nonce, end := exchange(t, r)
		ad, s := drawn(r, r.Intn(40)), drawn(r, r.Intn(100))
		c := sealed(t, key, nonce, ad, s)
		for i := range 8 * len(c) {
			_, err := end.Open([]byte(ad), []byte(flipped(c, i)))
			if e := openIs(t, key, nonce, ad, flipped(c, i)); (e == 0) != (err == nil) {
				t.Fatalf("the bit %d: %v, by the library %v", i, e, err)
			}
		}
	}
}
