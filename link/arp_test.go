package link_test

import (
	"math/rand"
	"testing"

	"pharos/api"
	"pharos/link"
)

// P17.2: the bytes of a question and of an answer.
const (
	askBytes    = "\x00\x01\x08\x00\x06\x04\x00\x01" + "ffffff\x0a\x00\x00\x02" + "tttttt\xc0\xa8\x01\xfe"
	answerBytes = "\x00\x01\x08\x00\x06\x04\x00\x02" + "ffffff\x0a\x00\x00\x02" + "tttttt\xc0\xa8\x01\xfe"
)

func arp(op uint16) api.Arp {
	return api.Arp{Op: op, From: "ffffff", FromAddr: 0x0a000002, To: "tttttt", ToAddr: 0xc0a801fe}
}

func TestArpBytes(t *testing.T) { // P17.2
	for _, c := range []struct {
		a api.Arp
		s string
	}{
		{arp(1), askBytes}, {arp(2), answerBytes},
		{api.Arp{Op: api.ArpAsk, From: nobody, To: all}, "\x00\x01\x08\x00\x06\x04\x00\x01" + nobody + full(0, 4) + all + full(0, 4)},
		{api.Arp{Op: api.ArpAnswer, From: all, FromAddr: 0xffffffff, To: nobody, ToAddr: 0x01020304},
			"\x00\x01\x08\x00\x06\x04\x00\x02" + all + full(255, 4) + nobody + "\x01\x02\x03\x04"},
	} {
		if s, e := link.EncodeArp(c.a); s != c.s || e != api.OK || len(s) != 28 {
			t.Errorf("EncodeArp(%v): %q %v", c.a, s, e)
		}
		for _, behind := range []string{"", "x", full(0, 18), askBytes, full('x', 2000)} { // what stands behind counts for nothing
			if a, e := link.DecodeArp(c.s + behind); a != c.a || e != api.OK {
				t.Errorf("DecodeArp(%q), %d bytes behind: %v %v", c.s, len(behind), a, e)
			}
		}
	}
	if api.ArpAsk != 1 || api.ArpAnswer != 2 {
		t.Error("the numbers are others")
	}
}

func TestEncodeArpWrong(t *testing.T) { // P17.2
	for op := range 65536 {
		a := arp(uint16(op))
		s, e := link.EncodeArp(a)
		if op == 1 || op == 2 {
			if e != api.OK {
				t.Errorf("EncodeArp(%v): %v", a, e)
			}
		} else if s != "" || e != api.ErrArg {
			t.Fatalf("EncodeArp(%v): %q %v", a, s, e)
		}
	}
	for _, mac := range []string{"", "f", "fffff", "fffffff", "ffffffffffff"} {
		from, to, both := arp(1), arp(2), arp(1)
		from.From, to.To, both.From, both.To = mac, mac, mac, mac
		for _, a := range []api.Arp{from, to, both} {
			if s, e := link.EncodeArp(a); s != "" || e != api.ErrArg {
				t.Errorf("EncodeArp(%v): %q %v", a, s, e)
			}
		}
	}
	lengths := arp(1)
	lengths.From, lengths.To = "fffff", "ttttttt" // 12 bytes of both
	if s, e := link.EncodeArp(lengths); s != "" || e != api.ErrArg {
		t.Errorf("EncodeArp(%v): %q %v", lengths, s, e)
	}
	if s, e := link.EncodeArp(api.Arp{}); s != "" || e != api.ErrArg {
		t.Errorf("EncodeArp of nothing: %q %v", s, e)
	}
}

func TestDecodeArpWrong(t *testing.T) { // P17.2: ErrShort ahead of ErrForm
	wrong := full('x', 28)
	for n := range 28 {
		for _, s := range []string{askBytes[:n], wrong[:n]} {
			if a, e := link.DecodeArp(s); a != (api.Arp{}) || e != api.ErrShort {
				t.Errorf("DecodeArp of %d bytes: %v %v", n, a, e)
			}
		}
	}
	for at := range 8 { // each byte that is told, and each other value of it
		for v := range 256 {
			b := []byte(askBytes)
			b[at] = byte(v)
			want := api.ErrForm
			if string(b) == askBytes || string(b) == answerBytes {
				want = api.OK
			}
			a, e := link.DecodeArp(string(b))
			if e != want || e != api.OK && a != (api.Arp{}) {
				t.Errorf("DecodeArp, the byte %d is %d: %v %v, want %v", at, v, a, e, want)
			}
		}
	}
	for _, s := range []string{wrong, full(0, 28), full(255, 60)} {
		if a, e := link.DecodeArp(s); a != (api.Arp{}) || e != api.ErrForm {
			t.Errorf("DecodeArp(%q): %v %v", s, a, e)
		}
	}
}

func TestArpsAgain(t *testing.T) { // P17.6: ARPs are read as they were written, also out of a frame that is filled up
	d := rand.New(rand.NewSource(17))
	for range 3000 {
		a := api.Arp{Op: uint16(1 + d.Intn(2)), From: drawn(d, 6), FromAddr: d.Uint32(), To: drawn(d, 6), ToAddr: d.Uint32()}
		s, e := link.EncodeArp(a)
		if e != api.OK {
			t.Fatalf("EncodeArp(%v): %v", a, e)
		}
		if b, e := link.DecodeArp(s); b != a || e != api.OK {
			t.Fatalf("DecodeArp(EncodeArp(%v)): %v %v", a, b, e)
		}
		s, e = link.Encode(api.Frame{Dst: a.To, Src: a.From, Type: api.TypeArp, Data: s})
		if e != api.OK {
			t.Fatal(e)
		}
		f, e := link.Decode(s)
		if b, e2 := link.DecodeArp(f.Data); b != a || e != api.OK || e2 != api.OK {
			t.Fatalf("%v out of a frame: %v %v %v", a, b, e, e2)
		}
	}
}

func TestAnyBytes(t *testing.T) { // R1, P17.1, P17.2: whatever comes is read, or refused, and what is read is written as it came
	d := rand.New(rand.NewSource(3))
	for range 20000 {
		s := drawn(d, d.Intn(80))
		if d.Intn(2) == 0 && len(s) >= 8 {
			s = askBytes[:d.Intn(9)] + s
		}
		if a, e := link.DecodeArp(s); e == api.OK {
			if w, e := link.EncodeArp(a); e != api.OK || w != s[:28] {
				t.Fatalf("EncodeArp(DecodeArp(%q)): %q %v", s, w, e)
			}
		}
		if f, e := link.Decode(s); e == api.OK && len(s) >= 60 {
			if w, e := link.Encode(f); e != api.OK || w != s {
				t.Fatalf("Encode(Decode(%q)): %q %v", s, w, e)
			}
		}
	}
}

func TestAlone(t *testing.T) { // P17.2
	for _, mac := range noMacs {
		if link.Alone(mac) {
			t.Errorf("Alone(%x)", mac)
		}
	}
	for first := range 256 { // the lowest bit of the first byte alone counts, unless all are 0
		mac := string([]byte{byte(first), 0, 0, 0, 0, 0})
		if want := first%2 == 0 && first != 0; link.Alone(mac) != want {
			t.Errorf("Alone(%x): %v", mac, !want)
		}
		for at := 1; at < 6; at++ {
			b := []byte{byte(first), 0, 0, 0, 0, 0}
			b[at] = 1
			if want := first%2 == 0; link.Alone(string(b)) != want {
				t.Errorf("Alone(%x): %v", b, !want)
			}
			b[at] = 0x80
			if want := first%2 == 0; link.Alone(string(b)) != want {
				t.Errorf("Alone(%x): %v", b, !want)
			}
		}
	}
	for _, mac := range []string{own, second, "\x00\x00\x00\x00\x00\x01", "\xfe\xff\xff\xff\xff\xff", "\x00\x01\x01\x01\x01\x01"} {
		if !link.Alone(mac) || link.Alone(mac[:5]) || link.Alone(mac+"\x00") {
			t.Errorf("Alone(%x)", mac)
		}
	}
}

func TestAloneAddr(t *testing.T) { // P17.2: the first byte alone counts
	for first := range uint32(256) {
		want := first >= 1 && first <= 223 && first != 127
		for _, rest := range []uint32{0, 1, 0x7f7f7f, 0x800000, 0xffffff} {
			if link.AloneAddr(first<<24|rest) != want {
				t.Errorf("AloneAddr(%x): %v", first<<24|rest, !want)
			}
		}
	}
	for _, a := range noAddrs {
		if link.AloneAddr(a) {
			t.Errorf("AloneAddr(%x)", a)
		}
	}
}
