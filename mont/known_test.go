package mont_test

import (
	"testing"

	"pharos/api"
)

// P8.1, W6: the texts of RFC 7748, section 5.2; of the second one the public key has its highest bit set.
func TestKnownShared(t *testing.T) {
	for _, x := range []struct{ secret, public, shared string }{
		{
			"a546e36bf0527c9d3b16154b82465edd62144c0ac1fc5a18506a2244ba449ac4",
			"e6db6867583030db3594c1a424b15f7c726624ec26b3353b10a903a6d0ab1c4c",
			"c3da55379de9c6908e94ea4df28d084f32eccf03491c71f754b4075577a28552",
		},
		{
			"4b66e9d4d1b4673c5ad22691957d6af5c11b6421e0ea01d42ca4169e7918ba0d",
			"e5210f12786811d3f4b7959d0538ae2c31dbe7106fc03c3efc4cd549c715a493",
			"95cbde9476e8907d7aade45cb4b873f88b595a68799fa152e6f8f7647aac7957",
		},
	} {
		is(t, of(x.secret), of(x.public), of(x.shared), api.OK)
	}
}

// P8.1, W6: RFC 7748, section 5.2: what comes is the next secret, and the secret the next public key.
func TestKnownAgainAndAgain(t *testing.T) {
	k := "\x09" + rep(0, 31)
	u := k
	for i := range 1000 {
		k, u = shared(t, k, u), k
		if i == 0 && k != of("422c8e7a6227d7bca1350b3e2bb7279f7897b87bb6854b783c60e80311ae3079") {
			t.Fatalf("once: %x", k)
		}
	}
	if k != of("684cf59ba83309552800ef566f2f4d3c1c3887c49360e3875f2eb94d99532c51") {
		t.Fatalf("a thousand times: %x", k)
	}
}

// P8.1, P8.2, W6: RFC 7748, section 6.1.
func TestKnownKeys(t *testing.T) {
	a := of("77076d0a7318a57d3c16c17251b26645df4c2f87ebc0992ab177fba51db92c2a")
	b := of("5dab087e624a8a4b79e17f8b83800ee66f3bb1292618b6fd1c2f8b27ff88e0eb")
	if s := public(t, a); s != of("8520f0098930a754748b7ddcb43ef75a0dbf3a0d26381af4eba4a98eaa9b4e6a") {
		t.Errorf("the first one's: %x", s)
	}
	if s := public(t, b); s != of("de9edb7d7b7dc1b4d35b61c2ece435373f8343c85b78674dadfc7e146f882b4f") {
		t.Errorf("the second one's: %x", s)
	}
	both := of("4a5d9d5ba4ce2de1728e3bf480350f25e07e21c947d19e3376f09b3c1e161742")
	is(t, a, public(t, b), both, api.OK)
	is(t, b, public(t, a), both, api.OK)
}
