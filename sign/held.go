package sign

import (
	"pharos/api"
	"pharos/order"
	"pharos/sha"
)

// held is what a secret holds.
type held struct {
	a      order.Scalar // what the base point is multiplied by
	prefix string       // what stands ahead of a text, so that nobody else can tell the number that it is signed with
}

// open is what a secret of 32 bytes holds.
func open(secret string) held {
	digest := sha.Of(secret)
	clamped, _ := order.Clamp(digest[:api.Key])
	return held{known(clamped), digest[api.Key:]}
}

// public is the key to tell of it.
func (h held) public() string {
	return times(h.a).Bytes()
}

// sign is the signature of a text. The number it is made with hangs on the secret and the text alone: one that was used for two texts would tell the secret.
func (h held) sign(s string) string {
	r := number(h.prefix, s)
	first := times(r).Bytes()
	k := number(first, h.public(), s)
	return first + k.MulAdd(h.a, r).Bytes()
}
