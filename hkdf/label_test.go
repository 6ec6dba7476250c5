package hkdf_test

import (
	"encoding/binary"
	"math/rand"
	"strings"
	"testing"

	"pharos/api"
	"pharos/hkdf"
)

// labelInfo is the chapter's words: what Label hands to Expand.
func labelInfo(label, context string, n int) string {
	b := binary.BigEndian.AppendUint16(nil, uint16(n))
	b = append(b, byte(len(label)+6))
	b = append(b, "tls13 "...)
	b = append(b, label...)
	b = append(b, byte(len(context)))
	return string(append(b, context...))
}

// labelled demands that all is well, and as Expand has it.
func labelled(t testing.TB, key, label, context string, n int) string {
	t.Helper()
	s, e := hkdf.Label(key, label, context, n)
	if e != api.OK || len(s) != n {
		t.Fatalf("a label of %d bytes, a context of %d, %d bytes: %d bytes, %v", len(label), len(context), n, len(s), e)
	}
	if want := expanded(t, key, labelInfo(label, context, n), n); s != want {
		t.Fatalf("a label of %d bytes, a context of %d, %d bytes: %x, want %x", len(label), len(context), n, s, want)
	}
	return s
}

// labelRefused demands ErrArg, and nothing beside it.
func labelRefused(t testing.TB, key, label, context string, n int) {
	t.Helper()
	if s, e := hkdf.Label(key, label, context, n); e != api.ErrArg || s != "" {
		t.Errorf("a label of %d bytes, a context of %d, %d bytes: %d bytes, %v", len(label), len(context), n, len(s), e)
	}
}

// The chapter's examples of Label.
func TestExampleLabel(t *testing.T) {
	s, e := hkdf.Label("k", "key", "", 16)
	if e != api.OK || s != expanded(t, "k", "\x00\x10\x09tls13 key\x00", 16) {
		t.Errorf("%x, %v", s, e)
	}
	labelRefused(t, "k", strings.Repeat("l", 250), "", 16)
	labelRefused(t, "k", "key", strings.Repeat("c", 256), 16)
}

// P12.1, P12.2, W6: the early, the handshake and the master secret of RFC 8448, section 3, from nothing on; and keys out of both ends' secrets, which are given here, not derived.
func TestKnownHandshake(t *testing.T) {
	zeros := strings.Repeat("\x00", 32)
	empty := hexed(t, "e3b0c44298fc1c149afbf4c8996fb92427ae41e4649b934ca495991b7852b855")
	shared := hexed(t, "8bd4054fb55b9d63fdfbacf9f04b9f0d35e6d63f537563efd46272900f89492d")
	is := func(what, got, want string) {
		t.Helper()
		if got != hexed(t, want) {
			t.Errorf("%s: %x", what, got)
		}
	}
	early := hkdf.Extract("", zeros)
	is("early", early, "33ad0a1c607ec03b09e6cd9893680ce210adf300aa1f2660e1b22e10f170f92a")
	derived := labelled(t, early, "derived", empty, 32)
	is("derived", derived, "6f2615a108c702c5678f54fc9dbab69716c076189c48250cebeac3576c3611ba")
	handshake := hkdf.Extract(derived, shared)
	is("handshake", handshake, "1dc826e93606aa6fdc0aadc12f741b01046aa6b99f691ed221a9f0ca043fbeac")
	master := hkdf.Extract(labelled(t, handshake, "derived", empty, 32), zeros)
	is("master", master, "18df06843d13a08bf2a449844c5f8a478001bc4d4c627984d5a41da8d0402919")
	client := hexed(t, "b3eddb126e067f35a780b3abf45e2d8f3b1a950738f52e9600746a0e27a55a21")
	server := hexed(t, "b67b7d690cc16c4e75e54213cb2d37b4e9c912bcded9105d42befd59d391ad38")
	is("the client's key", labelled(t, client, "key", "", 16), "dbfaa693d1762c5b666af5d950258d01")
	is("the client's iv", labelled(t, client, "iv", "", 12), "5bd3c71b836e0b76bb73265f")
	is("the client's finished", labelled(t, client, "finished", "", 32), "b80ad01015fb2f0bd65ff7d4da5d6bf83f84821d1f87fdc7d3c75b5a7b42d9c4")
	is("the server's key", labelled(t, server, "key", "", 16), "3fce516009c21727d0f2e4e86ee403bc")
	is("the server's iv", labelled(t, server, "iv", "", 12), "5d313eb2671276ee13000b30")
	is("the server's finished", labelled(t, server, "finished", "", 32), "008d3b66f816ea559f96b537e885c31fc068bf492c652f01f288a1d8cdc19fc8")
}

// P12.2: labels of each length up to MaxLabel, and contexts of each up to 255.
func TestLabelEachLength(t *testing.T) {
	r := rand.New(rand.NewSource(125))
	for n := range 256 {
		if n <= api.MaxLabel {
			labelled(t, "key", drawn(r, n), "", 16)
			labelled(t, "key", drawn(r, n), drawn(r, 32), 33)
		}
		labelled(t, "key", "", drawn(r, n), 16)
		labelled(t, drawn(r, n), "label", drawn(r, n), 33)
	}
	labelled(t, "", "", "", 32)
	labelled(t, "key", drawn(r, api.MaxLabel), drawn(r, 255), 8160)
}

// P12.2: the limits are those that the chapter says; one beyond is refused, whatever all else is.
func TestLabelRefused(t *testing.T) {
	for _, label := range []int{0, 1, 248, 249, 250, 251, 255, 256, 257, 512, 1 << 16, 1 << 20} {
		for _, context := range []int{0, 1, 249, 250, 254, 255, 256, 257, 512, 1 << 16, 1 << 20} {
			l, c := strings.Repeat("l", label), strings.Repeat("c", context)
			if label <= 249 && context <= 255 {
				labelled(t, "key", l, c, 16)
				labelled(t, "key", l, c, 0)
			} else {
				labelRefused(t, "key", l, c, 16)
				labelRefused(t, "key", l, c, 0)
				labelRefused(t, "", l, c, 8161)
			}
		}
	}
}

// P12.2: as Expand says, of how many bytes.
func TestLabelHowMany(t *testing.T) {
	for _, n := range edges() {
		labelled(t, "key", "label", "context", n)
		labelled(t, "", "", "", n)
	}
	for _, n := range beyond() {
		labelRefused(t, "key", "label", "context", n)
		labelRefused(t, "", "", "", n)
		labelRefused(t, "key", strings.Repeat("l", 249), strings.Repeat("c", 255), n)
		labelRefused(t, "key", strings.Repeat("l", 250), strings.Repeat("c", 256), n)
	}
}

// P12.2: how many bytes are asked for counts: fewer are not the beginning of more, unlike Expand's; both bytes of it.
func TestLabelCountsHowMany(t *testing.T) {
	seen := map[string]bool{}
	for _, n := range lengths()[16:] {
		s := labelled(t, "key", "label", "context", n)
		if seen[s[:16]] {
			t.Fatalf("%d bytes begin as others", n)
		}
		seen[s[:16]] = true
	}
}

// P12.2: where the label ends and the context begins counts, each bit of both, and bytes of all kinds are taken.
func TestLabelAndContext(t *testing.T) {
	seen := map[string]bool{}
	for i := range 11 {
		seen[labelled(t, "key", "0123456789"[:i], "0123456789"[i:], 32)] = true
	}
	if len(seen) != 11 {
		t.Errorf("%d answers", len(seen))
	}
	for i := range 256 {
		one := string([]byte{byte(i)})
		seen[labelled(t, "key", one, "", 32)] = true
		seen[labelled(t, "key", "", one, 32)] = true
		seen[labelled(t, one, "", "", 32)] = true
	}
	if len(seen) != 11+3*256 {
		t.Errorf("%d answers", len(seen))
	}
	if labelled(t, "key", "A", "", 32) == labelled(t, "key", "a", "", 32) {
		t.Error("letters small and capital are one")
	}
}

// P12.2: drawn keys, labels, contexts and numbers, right and wrong, against the chapter's words.
func TestLabelByChance(t *testing.T) {
	r := rand.New(rand.NewSource(126))
	for range 3000 {
		key, label, context := drawn(r, r.Intn(100)), drawn(r, r.Intn(280)), drawn(r, r.Intn(280))
		n := r.Intn(300) - 20
		if len(label) > 249 || len(context) > 255 || n < 0 {
			labelRefused(t, key, label, context, n)
			continue
		}
		labelled(t, key, label, context, n)
	}
}
