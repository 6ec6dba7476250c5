package seg_test

import (
	"math/rand"
	"testing"

	"pharos/api"
	"pharos/seg"
)

// encode is a segment's bytes by the chapter's words.
func encode(g api.Seg, src, dst uint32) string {
	options := ""
	if g.Mss != 0 {
		options = "\x02\x04" + told(int(g.Mss))
	}
	if g.HasScale {
		options += "\x01\x03\x03" + string([]byte{g.Scale})
	}
	fours := 5 + len(options)/4
	s := told(int(g.Src)) + told(int(g.Dst)) + wide(g.Seq) + wide(g.Ack) + string([]byte{byte(fours << 4), g.Flags}) + told(int(g.Wnd)) + "\x00\x00\x00\x00"
	return summed(s+options+g.Data, src, dst)
}

// at2 and at4 are the numbers at a place.
func at2(s string, k int) uint16 { return uint16(s[k])<<8 | uint16(s[k+1]) }
func at4(s string, k int) uint32 { return uint32(at2(s, k))<<16 | uint32(at2(s, k+2)) }

// decode is what bytes are by the chapter's words: options are told by a function that calls itself for those behind.
func decode(s string, src, dst uint32) (api.Seg, api.Errno) {
	if len(s) < 20 {
		return api.Seg{}, api.ErrShort
	}
	h := int(s[12]) / 16 * 4
	if h < 20 || h > len(s) {
		return api.Seg{}, api.ErrForm
	}
	if modelSum(s, src, dst) != 0 {
		return api.Seg{}, api.ErrCheck
	}
	g := api.Seg{Src: at2(s, 0), Dst: at2(s, 2), Seq: at4(s, 4), Ack: at4(s, 8), Flags: s[13], Wnd: at2(s, 14), Data: s[h:]}
	if !behind(s[20:h], &g) {
		return api.Seg{}, api.ErrForm
	}
	if g.Flags/2%2 == 0 {
		g.Mss, g.HasScale, g.Scale = 0, false, 0
	}
	return g, api.OK
}

// behind is whether options are right; what they tell is noted from the first on.
func behind(s string, g *api.Seg) bool {
	if s == "" || s[0] == 0 {
		return true
	}
	if s[0] == 1 {
		return behind(s[1:], g)
	}
	if len(s) == 1 || s[1] < 2 || int(s[1]) > len(s) {
		return false
	}
	size := int(s[1])
	if s[0] == 2 && size == 4 {
		g.Mss = at2(s, 2)
	} else if s[0] == 3 && size == 3 {
		g.HasScale, g.Scale = true, s[2]
		if s[2] > 14 {
			g.Scale = 14
		}
	} else if s[0] == 2 || s[0] == 3 {
		return false
	}
	return behind(s[size:], g)
}

// drawnOptions are some, right mostly, that a head has room for.
func drawnOptions(d *rand.Rand) (string, int) {
	s := ""
	for len(s) < 40 && d.Intn(7) > 0 {
		switch d.Intn(9) {
		case 0:
			s += "\x01"
		case 1, 2:
			s += "\x02\x04" + drawn(d, 2)
		case 3, 4:
			s += "\x03\x03" + string([]byte{byte(d.Intn(20))})
		case 5:
			n := d.Intn(10)
			s += string([]byte{byte(4 + d.Intn(252)), byte(2 + n)}) + drawn(d, n)
		case 6:
			s += drawn(d, d.Intn(5))
		case 7:
			s += string([]byte{byte(d.Intn(5)), byte(d.Intn(6))}) + drawn(d, d.Intn(4))
		case 8:
			s += string([]byte{0})
		}
	}
	return padded(s[:min(len(s), 40)], byte(d.Intn(3)))
}

func TestAnyBytes(t *testing.T) { // R1, P19.2: whatever comes is read as the words have it, or refused
	d := rand.New(rand.NewSource(5))
	type what struct {
		e          api.Errno
		syn        bool
		mss, scale bool
	}
	count := map[what]int{}
	for range 60000 {
		options, fours := drawnOptions(d)
		flags := uint8(d.Intn(256))
		s := bytesOf(fours, flags, options, drawn(d, d.Intn(30)))
		switch d.Intn(8) {
		case 0:
			s = s[:d.Intn(len(s)+1)]
		case 1:
			s = drawn(d, d.Intn(80))
		case 2:
			b := []byte(s)
			b[d.Intn(len(b))] = byte(d.Intn(256))
			s = string(b)
		case 3:
			b := []byte(s)
			b[12+d.Intn(len(b)-12)] = byte(d.Intn(256))
			s = summed(string(b), there, here)
		}
		want, wantE := decode(s, there, here)
		g, e := seg.Decode(s, there, here)
		if g != want || e != wantE {
			t.Fatalf("Decode(%x): %s %v, want %s %v", s, brief(g), e, brief(want), wantE)
		}
		count[what{e, flags&2 != 0, g.Mss != 0, g.HasScale}]++
	}
	for _, w := range []what{
		{api.ErrShort, true, false, false}, {api.ErrForm, true, false, false}, {api.ErrForm, false, false, false},
		{api.ErrCheck, true, false, false}, {api.OK, false, false, false}, {api.OK, true, false, false},
		{api.OK, true, true, false}, {api.OK, true, false, true}, {api.OK, true, true, true},
	} {
		if count[w] < 500 {
			t.Errorf("it says too little of %v: %d", w, count[w])
		}
	}
}

func TestReadIsWritten(t *testing.T) { // P19.2 and P19.3: what was read may be written, if it is not too long; what is read of that is the same
	d := rand.New(rand.NewSource(6))
	read := 0
	for range 20000 {
		options, fours := drawnOptions(d)
		g, e := seg.Decode(bytesOf(fours, uint8(d.Intn(256)), options, drawn(d, 1440+d.Intn(40))), there, here)
		if e != api.OK {
			continue
		}
		read++
		s, e := seg.Encode(g, here, there)
		if len(g.Data) > 1460 {
			if s != "" || e != api.ErrLong {
				t.Fatalf("Encode(%s): %x %v", brief(g), s, e)
			}
			continue
		}
		if x, e2 := seg.Decode(s, here, there); x != g || e != api.OK || e2 != api.OK {
			t.Fatalf("Decode(Encode(%s)): %s %v %v", brief(g), brief(x), e, e2)
		}
	}
	if read < 5000 {
		t.Errorf("it says too little: %d", read)
	}
}

func TestAgain(t *testing.T) { // R6: called again, in any order, all is the same
	d := rand.New(rand.NewSource(7))
	var asked, answered []string
	for range 200 {
		options, fours := drawnOptions(d)
		s := bytesOf(fours, api.Syn, options, drawn(d, 9))
		g, e := seg.Decode(s, there, here)
		asked, answered = append(asked, s), append(answered, brief(g)+e.Error())
	}
	for _, k := range d.Perm(200) {
		g, e := seg.Decode(asked[k], there, here)
		if x := brief(g) + e.Error(); x != answered[k] {
			t.Errorf("Decode(%x): %s, was %s", asked[k], x, answered[k])
		}
	}
}
