package ip_test

import (
	"math/rand"
	"testing"

	"pharos/api"
	"pharos/ip"
)

// ask is a packet with an ask by ICMP, whose sum is right.
func ask(behind string) api.Packet {
	return icmp(summed("\x08\x00\x00\x00"+behind, 2, 4+len(behind)))
}

func icmp(data string) api.Packet {
	return api.Packet{Src: there, Dst: here, Proto: api.ProtoIcmp, TTL: 9, ID: 7, Data: data}
}

// said is what goes back to there.
func said(id uint16, data string) api.Packet {
	return api.Packet{Src: here, Dst: there, Proto: api.ProtoIcmp, TTL: 64, ID: id, Data: data}
}

// echoes demands the answer to an ask: its data behind the sum.
func echoes(t *testing.T, p api.Packet) {
	t.Helper()
	want := said(p.ID, summed("\x00\x00\x00\x00"+p.Data[4:], 2, len(p.Data)))
	q, is := ip.Echo(p)
	if q != want || !is {
		t.Errorf("Echo(%s): %s %v, want %s", brief(p), brief(q), is, brief(want))
	}
	if ip.Sum(q.Data) != 0 {
		t.Errorf("Echo(%s): its sum is %x", brief(p), ip.Sum(q.Data))
	}
}

// silent demands that there is no answer.
func silent(t *testing.T, p api.Packet) {
	t.Helper()
	if q, is := ip.Echo(p); q != (api.Packet{}) || is {
		t.Errorf("Echo(%s): %s %v", brief(p), brief(q), is)
	}
}

func TestEchoBytes(t *testing.T) { // P18.5: by hand
	p := icmp("\x08\x00\x2f\x33\x01\x02\x03\x04abcd")
	q, is := ip.Echo(p)
	if want := said(7, "\x00\x00\x37\x33\x01\x02\x03\x04abcd"); q != want || !is {
		t.Errorf("Echo: %s %v, want %s", brief(q), is, brief(want))
	}
}

func TestEcho(t *testing.T) { // P18.5: of all lengths, also such as are not sent at once
	d := rand.New(rand.NewSource(5))
	for n := 4; n < 1600; n++ {
		p := ask(drawn(d, n))
		p.ID = uint16(d.Intn(65536))
		echoes(t, p)
	}
	for _, n := range []int{8188, 8189, 65511, 1 << 20} {
		echoes(t, ask(full(0xff, n)))
	}
	for _, behind := range []string{full(0, 4), full(0, 5), full(0xff, 4), full(0xff, 5), "\xf7\xff\x00\x00", "\xff\xff\x00\x00", "\x00\x00\xf8\x00"} { // sums of 0 and of ffff
		echoes(t, ask(behind))
	}
	p := ask("abcd") // the two that are the same number at the low end
	p.Data = summed("\x08\x00\x00\x00\xf7\xff\x00\x00", 2, 8)
	for _, sum := range []string{"\x00\x00", "\xff\xff"} {
		p.Data = p.Data[:2] + sum + p.Data[4:]
		echoes(t, p)
	}
}

func TestEchoMarks(t *testing.T) { // P18.5: the ID goes back, no other mark does; a piece is not answered
	p := ask("abcd")
	p.Stay, p.ID, p.TTL = true, 0xffff, 1
	echoes(t, p)
	p.ID, p.TTL = 0, 0
	echoes(t, p)
	p.Src, p.Dst = 0, 0xffffffff
	if q, is := ip.Echo(p); !is || q.Src != 0xffffffff || q.Dst != 0 {
		t.Errorf("Echo: %s %v", brief(q), is)
	}
	for _, off := range []uint16{0, 1, 8191, 8192, 65535} {
		for _, more := range []bool{false, true} {
			if p := ask("abcd"); off != 0 || more {
				p.Off, p.More = off, more
				silent(t, p)
			}
		}
	}
}

func TestEchoOthers(t *testing.T) { // P18.5: each other protocol, and each other first two bytes, is not answered
	p := ask("abcd")
	for proto := range 256 {
		if p.Proto = uint8(proto); p.Proto != api.ProtoIcmp {
			silent(t, p)
		}
	}
	for first := range 65536 {
		p := icmp(summed(told(first)+"\x00\x00abcd", 2, 8))
		if first == 0x0800 {
			echoes(t, p)
		} else if q, is := ip.Echo(p); is || q != (api.Packet{}) {
			t.Fatalf("Echo(%s): %s %v", brief(p), brief(q), is)
		}
	}
	q, is := ip.Echo(ask("abcd"))
	if !is {
		t.Error("no answer")
	}
	silent(t, q) // an answer is not answered
}

func TestEchoShort(t *testing.T) { // P18.5: at least 8 bytes
	silent(t, icmp(""))
	for n := 1; n < 4; n++ {
		silent(t, icmp("\x08\x00\xf7\xff"[:n]))
	}
	for n := range 4 {
		silent(t, ask(full('x', n)))
		silent(t, ask(full(0, n)))
	}
	echoes(t, ask("xxxx"))
}

func TestEchoSums(t *testing.T) { // P18.5: of all sums that may stand there one is right
	p := ask("abcdefghi")
	right := p.Data
	for n := range 65536 {
		p.Data = right[:2] + told(n) + right[4:]
		if q, is := ip.Echo(p); is != (p.Data == right) || !is && q != (api.Packet{}) {
			t.Fatalf("Echo, the sum %x: %s %v", n, brief(q), is)
		}
	}
	for at := range right { // and a byte that is another one is found out
		b := []byte(right)
		b[at]++
		silent(t, icmp(string(b)))
	}
}

// away demands what is said of a packet that is not taken.
func away(t *testing.T, p api.Packet, code uint8) {
	t.Helper()
	cut := p
	cut.Data = p.Data[:min(8, len(p.Data))]
	quote := headOf(cut) + cut.Data
	back := summed("\x03"+string([]byte{code})+"\x00\x00\x00\x00\x00\x00"+quote, 2, 8+len(quote))
	want := api.Packet{Src: p.Dst, Dst: p.Src, Proto: api.ProtoIcmp, TTL: 64, Data: back}
	q, is := ip.Away(p, code)
	if q != want || !is {
		t.Errorf("Away(%s, %d): %s %v, want %s", brief(p), code, brief(q), is, brief(want))
	}
	if ip.Sum(q.Data) != 0 {
		t.Errorf("Away(%s, %d): its sum is %x", brief(p), code, ip.Sum(q.Data))
	}
}

// unsaid demands that nothing is said.
func unsaid(t *testing.T, p api.Packet) {
	t.Helper()
	for _, code := range []uint8{0, 2, 255} {
		if q, is := ip.Away(p, code); q != (api.Packet{}) || is {
			t.Errorf("Away(%s, %d): %s %v", brief(p), code, brief(q), is)
		}
	}
}

func TestAwayBytes(t *testing.T) { // P18.5: by hand
	p := api.Packet{Src: 0xc0a80001, Dst: 0xc0a800c7, Proto: 17, TTL: 64, Stay: true, Data: "\x00\x35\x00\x36\x00\x5f\x00\x00rest"}
	q, is := ip.Away(p, 2)
	want := api.Packet{Src: 0xc0a800c7, Dst: 0xc0a80001, Proto: 1, TTL: 64, Data: "\x03\x02\xfc\x33\x00\x00\x00\x00" +
		"\x45\x00\x00\x1c\x00\x00\x40\x00\x40\x11\xb8\xb8\xc0\xa8\x00\x01\xc0\xa8\x00\xc7" + "\x00\x35\x00\x36\x00\x5f\x00\x00"}
	if q != want || !is {
		t.Errorf("Away: %s %v, want %s", brief(q), is, brief(want))
	}
}

func TestAway(t *testing.T) { // P18.5: each code, each length around 8, and such as are not sent at once
	for code := range 256 {
		away(t, piece(7, 0, false, "some data"), uint8(code))
	}
	for _, n := range []int{0, 1, 6, 7, 8, 9, 10, 1480, 1481, 8192, 65515, 65516, 65536 + 3, 1 << 20} {
		for _, proto := range []uint8{0, 2, 6, 17, 255} {
			p := piece(7, 0, false, places(0, n))
			p.Proto = proto
			away(t, p, 3)
		}
	}
	d := rand.New(rand.NewSource(6))
	for range 2000 { // whatever its marks are: they are quoted, and not its answer's
		p := drawnPacket(d, d.Intn(20))
		p.Off = 0
		if p.Proto != api.ProtoIcmp {
			away(t, p, uint8(d.Intn(256)))
		}
	}
}

func TestAwayPieces(t *testing.T) { // P18.5: of pieces the first alone is answered
	for _, proto := range []uint8{api.ProtoIcmp, api.ProtoTcp, 17} {
		p := piece(7, 0, true, "\x08\x00some data")
		p.Proto = proto
		away(t, p, 2)
		for _, off := range []uint16{1, 2, 185, 8191, 8192, 65535} {
			for _, more := range []bool{false, true} {
				p.Off, p.More = off, more
				unsaid(t, p)
			}
		}
	}
}

func TestAwayIcmp(t *testing.T) { // P18.5: of ICMP an ask alone is answered, whatever else stands in it; the first byte is nothing elsewhere
	for first := range 256 {
		for _, rest := range []string{"", "\x00", "\x01\x02\x03", "\x00\x00\x00abcdefgh"} {
			p := icmp(string([]byte{byte(first)}) + rest)
			if first == 8 {
				away(t, p, 2)
			} else {
				unsaid(t, p)
			}
			p.Proto = 17
			away(t, p, 2)
		}
	}
	unsaid(t, icmp(""))
	q, is := ip.Away(piece(7, 0, false, "data"), 3)
	if !is {
		t.Error("nothing is said")
	}
	unsaid(t, q) // nor is what it says answered so
}

func TestSaidIsSent(t *testing.T) { // P18.5: what is said is a packet, that is read as it was written
	for _, p := range []api.Packet{ask("abcd"), ask(full('x', 1472-4+8)), piece(7, 0, false, "some data")} {
		q, is := ip.Echo(p)
		if p.Proto != api.ProtoIcmp {
			q, is = ip.Away(p, 3)
		}
		s, e := ip.Encode(q)
		r, e2 := ip.Decode(s)
		if !is || e != api.OK || e2 != api.OK || r != q {
			t.Errorf("%s: %s %v, %v %v %s", brief(p), brief(q), is, e, e2, brief(r))
		}
	}
}

func TestSaidIsNew(t *testing.T) { // R5: an answer does not change when the bytes do that it is an answer to
	p := ask("abcdefgh")
	want, _ := ip.Echo(p)
	s, b := lent(p.Data)
	p.Data = s
	q, _ := ip.Echo(p)
	a, _ := ip.Away(p, 2)
	again := a.Data + "."
	clear(b)
	if q != want || a.Data+"." != again {
		t.Errorf("Echo: %s, Away: %s", brief(q), brief(a))
	}
}
