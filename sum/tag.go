package sum

// Two keys are made of one, so that neither digest begins as the other does: that ahead of the inner digest, and that ahead of the text.
const (
	outer = 92
	inner = 54
)

// Tag is the tag of a text by a key.
func Tag(key, s string) string {
	if len(key) > size {
		key = Of(key)
	}
	return joined(masked(key, outer), joined(masked(key, inner), s))
}

// masked is a key of at most one block, made a whole one, each byte of it exclusive or by.
func masked(key string, by byte) string {
	b := make([]byte, size)
	copy(b, key)
	for i := range b {
		b[i] ^= by
	}
	return string(b)
}
