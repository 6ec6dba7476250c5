package ip_test

import (
	"math"
	"testing"

	"pharos/api"
	"pharos/ip"
)

func TestExample(t *testing.T) { // P18.4: the chapter's own
	x := fresh(t, 1, 10)
	x.keeps(part(8, 12, false), 1)
	x.makes(part(0, 8, true), 2, made(part(0, 8, true), 9, places(0, 12)))
	x.waits(0)
	x.keeps(part(0, 8, true), 3) // the first one again begins a new set
	x.waits(1)
	x.refuses(part(0, 16, true), 3, api.ErrOver)
	x.waits(0)
}

func TestNew(t *testing.T) { // P18.3: the bounds
	for _, most := range []int{1, 2, 31, 32} {
		for _, life := range []uint64{1, 2, 1<<32 - 1, 1 << 32} {
			fresh(t, most, life).waits(0)
		}
	}
	for _, c := range []struct {
		most int
		life uint64
	}{
		{0, 1}, {-1, 1}, {33, 1}, {math.MinInt, 1}, {math.MaxInt, 1}, {1<<32 + 1, 1},
		{1, 0}, {1, 1<<32 + 1}, {1, 1 << 33}, {1, math.MaxUint64}, {0, 0}, {33, 0},
	} {
		if x, e := ip.New(c.most, c.life); x != nil || e != api.ErrArg {
			t.Errorf("New(%d, %d): %v %v", c.most, c.life, x, e)
		}
	}
	if api.MaxSets != 32 || api.MaxLife != 1<<32 || api.MaxWhole != 8192 {
		t.Error("the limits are others")
	}
}

func TestNone(t *testing.T) { // R3: nil, and what New did not make
	var none *ip.Pieces
	for _, x := range []*ip.Pieces{none, new(ip.Pieces), {}} {
		if n := x.Waits(); n != 0 {
			t.Errorf("Waits: %d", n)
		}
		for _, now := range []uint64{0, 5, farthest, 1 << 62, math.MaxUint64} { // ErrNil, ahead of all else
			for _, p := range []api.Packet{{}, piece(7, 0, false, "ab"), part(0, 8, true), part(8, 12, false), piece(7, 0, true, "ab"), piece(7, 1024, true, "abcdefgh")} {
				if q, is, e := x.Take(p, now); q != (api.Packet{}) || is || e != api.ErrNil {
					t.Errorf("Take: %v %v %v", q, is, e)
				}
			}
		}
	}
}

func TestNoPiece(t *testing.T) { // P18.4: what came whole is taken as it is, whatever waits, however long it is
	x := fresh(t, 1, 10)
	x.keeps(part(0, 8, true), 1)
	for _, n := range []int{0, 1, 7, 8, 1480, 1481, 8192, 8193, 65515} {
		for _, stay := range []bool{false, true} {
			p := api.Packet{Src: there, Dst: here, Proto: api.ProtoTcp, TTL: 200, ID: 7, Stay: stay, Data: places(0, n)}
			x.makes(p, 2, p)
			p.ID, p.Proto = 8, 0
			x.makes(p, 2, p)
		}
	}
	x.makes(api.Packet{}, 2, api.Packet{})
	x.waits(1)
	x.makes(part(8, 12, false), 2, made(part(0, 8, true), 9, places(0, 12))) // what waits was left alone
}

func TestNoTimes(t *testing.T) { // P18.4: ErrArg, ahead of all else, and nothing is done
	x := fresh(t, 1, 10)
	check := func(want int) {
		t.Helper()
		for _, now := range noTimes {
			for _, p := range []api.Packet{
				{}, piece(7, 0, false, "ab"), part(0, 8, true), part(8, 12, false), part(0, 16, true), piece(8, 0, true, "abcdefgh"),
				piece(7, 0, true, ""), piece(7, 0, true, "ab"), piece(7, 1024, true, "abcdefgh"),
			} {
				x.refuses(p, now, api.ErrArg)
				x.waits(want)
			}
		}
	}
	check(0)
	x.keeps(part(0, 8, true), 1)
	check(1)
	x.makes(part(8, 12, false), 10, made(part(0, 8, true), 9, places(0, 12)))
	x.keeps(part(0, 8, true), farthest)
	x.makes(part(8, 12, false), farthest, made(part(0, 8, true), 9, places(0, 12)))
}

// wrongPieces are such as no packet has, with the error of each.
var wrongPieces = []struct {
	off  uint16
	more bool
	size int
	want api.Errno
}{
	{0, true, 0, api.ErrForm}, {1, false, 0, api.ErrForm}, {1, true, 0, api.ErrForm}, {1024, false, 0, api.ErrForm},
	{0, true, 1, api.ErrForm}, {0, true, 7, api.ErrForm}, {1, true, 9, api.ErrForm}, {3, true, 12, api.ErrForm}, {3, true, 1479, api.ErrForm},
	{1023, false, 9, api.ErrLong}, {1023, true, 16, api.ErrLong}, {1024, false, 1, api.ErrLong}, {1024, true, 8, api.ErrLong}, {1025, false, 1, api.ErrLong},
	{1, false, 8185, api.ErrLong}, {0, true, 8200, api.ErrLong}, {0, true, 65512, api.ErrLong}, {1, false, 65528, api.ErrLong},
	{8191, false, 1, api.ErrLong}, {8192, true, 8, api.ErrLong}, {8193, false, 4, api.ErrLong}, {32768, true, 8, api.ErrLong}, {57345, false, 4, api.ErrLong}, {65535, false, 8, api.ErrLong},
	{1024, true, 0, api.ErrForm}, {1024, true, 7, api.ErrForm}, {0, true, 8193, api.ErrForm}, {65535, true, 9, api.ErrForm}, {65535, false, 0, api.ErrForm}, // ahead of ErrLong
}

func TestWrongPieces(t *testing.T) { // P18.4: the set of such a piece goes, no other one, and none begins
	for _, c := range wrongPieces {
		x := fresh(t, 2, 10)
		p := piece(7, c.off, c.more, places(0, c.size))
		x.refuses(p, 1, c.want)
		x.waits(0)
		x.keeps(part(0, 8, true), 1)
		x.keeps(piece(8, 0, true, "abcdefgh"), 1)
		p.ID = 9 // of no set, where there is no room
		x.refuses(p, 1, c.want)
		x.waits(2)
		p.ID = 7
		x.refuses(p, 1, c.want)
		x.waits(1)
		x.keeps(part(8, 12, false), 1) // what was there at first is there no more
		x.waits(2)
		x.makes(piece(8, 1, false, "i"), 1, made(piece(8, 0, true, ""), 9, "abcdefghi"))
		x.waits(1)
	}
}

func TestPieceEdges(t *testing.T) { // P18.4: the greatest that are right
	for _, c := range []struct {
		off  uint16
		more bool
		size int
	}{
		{0, true, 8}, {1, true, 8}, {1, false, 1}, {1, false, 7}, {1, false, 9}, {0, true, 8192}, {0, true, 8184}, {1, true, 8184},
		{1, false, 8184}, {1, false, 8183}, {1023, true, 8}, {1023, false, 8}, {1023, false, 7}, {1023, false, 1}, {1022, true, 16},
	} {
		x := fresh(t, 1, 10)
		x.keeps(piece(7, c.off, c.more, places(0, c.size)), 1)
		x.waits(1)
	}
}

func TestWhole(t *testing.T) { // P18.4: two pieces, of each length of the second one, up to the greatest
	for size := 1; size <= 8184; size++ {
		if size > 40 && size < 8170 && size%97 != 0 {
			continue
		}
		x := fresh(t, 1, 10)
		x.keeps(part(0, 8, true), 1)
		x.makes(part(8, 8+size, false), 1, made(part(0, 8, true), 9, places(0, 8+size)))
		x.keeps(part(8, 8+size, false), 1)
		x.makes(part(0, 8, true), 1, made(part(0, 8, true), 9, places(0, 8+size)))
		x.waits(0)
	}
}

func TestSmallest(t *testing.T) { // P18.4: as many pieces as there may be, forth, back, and from the middle
	step := map[string]func(k int) int{
		"forth": func(k int) int { return k },
		"back":  func(k int) int { return 1023 - k },
		"about": func(k int) int { return k * 515 % 1024 },
	}
	for name, place := range step {
		x := fresh(t, 1, 10)
		for k := range 1023 {
			at := 8 * place(k)
			x.keeps(part(at, at+8, at != 8184), 1)
		}
		at := 8 * place(1023)
		x.makes(part(at, at+8, at != 8184), 1, made(part(0, 8, true), 9, places(0, 8192)))
		if x.waits(0); t.Failed() {
			t.Fatal(name)
		}
	}
}

func TestMade(t *testing.T) { // P18.4: which marks the whole has, whatever those of its pieces are: the TTL is that of the piece at 0
	for k := range 8 {
		a, b, c := part(0, 8, true), part(8, 24, true), part(24, 29, false)
		a.TTL, b.TTL, c.TTL = 11, 22, 33
		a.Stay, b.Stay, c.Stay = k&1 != 0, k&2 != 0, k&4 != 0
		want := api.Packet{Src: there, Dst: here, Proto: api.ProtoTcp, ID: 7, TTL: 11, Data: places(0, 29)}
		for _, l := range [][3]api.Packet{{a, b, c}, {a, c, b}, {b, a, c}, {b, c, a}, {c, a, b}, {c, b, a}} {
			x := fresh(t, 1, 10)
			x.keeps(l[0], 1)
			x.keeps(l[1], 1)
			x.makes(l[2], 1, want)
			x.waits(0)
		}
	}
}

func TestTwice(t *testing.T) { // P18.4: a piece that is there already changes nothing, whatever its other marks are
	for _, l := range [][]api.Packet{
		{part(0, 8, true), part(16, 24, true), part(24, 30, false)},
		{part(24, 30, false), part(0, 8, true), part(16, 24, true)},
	} {
		x := fresh(t, 1, 10)
		for k, p := range l {
			x.keeps(p, 1)
			for _, again := range l[:k+1] {
				x.keeps(again, 2)
				again.TTL, again.Stay = 77, true
				x.keeps(again, 2)
			}
			x.waits(1)
		}
		x.makes(part(8, 16, true), 2, made(part(0, 8, true), 9, places(0, 30)))
		x.waits(0)
	}
}

func TestTwiceOver(t *testing.T) { // P18.4: of its place alone, its Data alone, its More alone it is another one, that lies over it
	for _, c := range []struct{ p, q api.Packet }{
		{piece(7, 1, true, "abcdefgh"), piece(7, 1, true, "abcdefgi")},
		{piece(7, 1, true, "abcdefgh"), piece(7, 1, false, "abcdefgh")},
		{piece(7, 1, false, "abcdefgh"), piece(7, 1, true, "abcdefgh")},
		{piece(7, 1, true, "abcdefgh"), piece(7, 1, true, "abcdefghabcdefgh")},
		{piece(7, 1, true, "abcdefghabcdefgh"), piece(7, 1, true, "abcdefgh")},
		{piece(7, 1, true, "abcdefghabcdefgh"), piece(7, 2, true, "abcdefghabcdefgh")},
		{piece(7, 2, true, "abcdefghabcdefgh"), piece(7, 1, true, "abcdefghabcdefgh")},
		{piece(7, 1, false, "ab"), piece(7, 1, false, "abc")},
	} {
		x := fresh(t, 1, 10)
		x.keeps(c.p, 1)
		x.refuses(c.q, 1, api.ErrOver)
		x.waits(0)
	}
}

func TestOver(t *testing.T) { // P18.4: each way in which a piece may not be beside others, and those next to it in which it may
	a, b, last := part(8, 24, true), part(32, 40, true), part(48, 52, false)
	for _, c := range []struct {
		what string
		have []api.Packet
		p    api.Packet
		want api.Errno
	}{
		{"at its beginning", []api.Packet{a, b}, part(0, 16, true), api.ErrOver},
		{"at its end", []api.Packet{a, b}, part(16, 32, true), api.ErrOver},
		{"within", []api.Packet{part(0, 40, true), part(48, 56, true)}, part(8, 16, true), api.ErrOver},
		{"around", []api.Packet{a, b}, part(0, 32, true), api.ErrOver},
		{"around both", []api.Packet{a, b}, part(0, 48, true), api.ErrOver},
		{"over both", []api.Packet{a, b}, part(16, 40, true), api.ErrOver},
		{"a part of it", []api.Packet{a, b}, part(8, 16, true), api.ErrOver},
		{"from it on", []api.Packet{a, b}, part(8, 32, true), api.ErrOver},
		{"up to its end", []api.Packet{a, b}, part(0, 24, true), api.ErrOver},
		{"between", []api.Packet{a, b}, part(24, 32, true), api.OK},
		{"ahead", []api.Packet{a, b}, part(0, 8, true), api.OK},
		{"behind", []api.Packet{a, b}, part(40, 48, true), api.OK},
		{"far behind", []api.Packet{a, b}, part(80, 88, true), api.OK},
		{"over the last one", []api.Packet{a, last}, part(40, 56, true), api.ErrOver},
		{"over the last one's end", []api.Packet{a, last}, piece(7, 6, true, places(48, 56)), api.ErrOver},
		{"up to the last one", []api.Packet{a, last}, part(40, 48, true), api.OK},
		{"behind the last one", []api.Packet{a, last}, part(56, 64, true), api.ErrOver},
		{"far behind the last one", []api.Packet{a, last}, part(800, 808, true), api.ErrOver},
		{"just behind the last one", []api.Packet{a, part(48, 56, false)}, part(56, 64, true), api.ErrOver},
		{"a last one, one stands behind", []api.Packet{a, b}, part(24, 30, false), api.ErrOver},
		{"a last one, one stands just behind", []api.Packet{a, b}, part(24, 32, false), api.ErrOver},
		{"a last one, one stands far behind", []api.Packet{b}, part(8, 9, false), api.ErrOver},
		{"a last one behind all", []api.Packet{a, b}, part(40, 41, false), api.OK},
		{"another last one ahead", []api.Packet{a, last}, part(32, 40, false), api.ErrOver},
		{"another last one just ahead", []api.Packet{a, last}, part(40, 48, false), api.ErrOver},
		{"another last one behind", []api.Packet{a, last}, part(56, 57, false), api.ErrOver},
		{"another last one, alone, ahead", []api.Packet{last}, part(8, 12, false), api.ErrOver},
		{"another last one, alone, behind", []api.Packet{last}, part(64, 68, false), api.ErrOver},
		{"another last one at its place, longer", []api.Packet{a, last}, part(48, 56, false), api.ErrOver},
		{"the last one is no last one", []api.Packet{a, part(48, 56, false)}, part(48, 56, true), api.ErrOver},
	} {
		x := fresh(t, 2, 10)
		x.keeps(piece(8, 0, true, "abcdefgh"), 1)
		for _, p := range c.have {
			x.keeps(p, 1)
		}
		if q, is, e := x.Take(c.p, 1); q != (api.Packet{}) || is || e != c.want {
			t.Errorf("%s: %s %v %v, want %v", c.what, brief(q), is, e, c.want)
		}
		if c.want == api.OK {
			x.waits(2)
			continue
		}
		x.waits(1)
		x.keeps(c.p, 1) // nothing of it is left: a new set
		x.waits(2)
		x.makes(piece(8, 1, false, "i"), 1, made(piece(8, 0, true, ""), 9, "abcdefghi"))
	}
}

func TestNotWhole(t *testing.T) { // P18.4: whatever is wanting, nothing is made
	all := []api.Packet{part(0, 8, true), part(8, 16, true), part(16, 32, true), part(32, 33, false)}
	for lacks := range all {
		x := fresh(t, 1, 10)
		for k, p := range all {
			if k != lacks {
				x.keeps(p, 1)
			}
		}
		x.waits(1)
		x.makes(all[lacks], 1, made(all[0], 9, places(0, 33)))
		x.waits(0)
	}
}

func TestSets(t *testing.T) { // P18.4, P18.6: pieces that are alike in all but one of what they have in common are not mixed
	a, b := part(0, 8, true), part(8, 12, false)
	others := []func(p *api.Packet){
		func(p *api.Packet) { p.Src++ }, func(p *api.Packet) { p.Dst++ }, func(p *api.Packet) { p.Proto++ }, func(p *api.Packet) { p.ID++ },
		func(p *api.Packet) { p.Src ^= 1 << 31 }, func(p *api.Packet) { p.Dst ^= 1 << 31 }, func(p *api.Packet) { p.Proto ^= 1 << 7 }, func(p *api.Packet) { p.ID ^= 1 << 15 },
		func(p *api.Packet) { p.Src, p.Dst = p.Dst, p.Src },
	}
	x := fresh(t, 1+len(others), 10)
	x.keeps(a, 1)
	for k, turn := range others {
		p := b
		turn(&p)
		x.keeps(p, 1)
		x.waits(2 + k)
	}
	for _, turn := range others {
		p := a
		turn(&p)
		x.makes(p, 1, made(p, 9, places(0, 12)))
	}
	x.waits(1)
	x.makes(b, 1, made(a, 9, places(0, 12)))
	x.waits(0)
}

func TestFull(t *testing.T) { // P18.4, P18.6: the newcomer is refused, who is there stays
	for _, most := range []int{1, 2, 31, 32} {
		x := fresh(t, most, 10)
		for k := range most {
			x.keeps(piece(uint16(k), 0, true, "abcdefgh"), 1)
		}
		x.waits(most)
		x.refuses(piece(100, 0, true, "abcdefgh"), 1, api.ErrFull)
		x.refuses(piece(100, 1, false, "i"), 10, api.ErrFull)
		x.refuses(piece(100, 0, true, "a"), 10, api.ErrForm) // told ahead of it
		x.refuses(piece(100, 1024, true, "abcdefgh"), 10, api.ErrLong)
		x.makes(piece(100, 0, false, "whole"), 10, piece(100, 0, false, "whole"))
		x.waits(most)
		for k := range most {
			x.keeps(piece(uint16(k), 2, true, "abcdefgh"), 10)
		}
		x.waits(most)
		x.refuses(piece(0, 0, true, "bbbbbbbb"), 10, api.ErrOver) // there is room now
		x.keeps(piece(100, 0, true, "abcdefgh"), 10)
		x.refuses(piece(0, 0, true, "abcdefgh"), 10, api.ErrFull)
		x.waits(most)
	}
}

func TestLife(t *testing.T) { // P18.4: a set is till its first piece's time and the life, whatever comes later
	for _, life := range []uint64{1, 2, 10, 1<<32 - 1, 1 << 32} {
		for _, since := range []uint64{0, 5, 1 << 32, farthest - 1<<32} {
			x := fresh(t, 2, life)
			x.keeps(part(0, 8, true), since)
			x.keeps(part(16, 20, false), since+life-1)
			x.keeps(part(16, 20, false), since+life-1) // the same one again
			x.makes(part(8, 16, true), since+life-1, made(part(0, 8, true), 9, places(0, 20)))
			x.keeps(part(0, 8, true), since)
			x.keeps(part(16, 20, false), since+life-1)
			x.keeps(part(8, 16, true), since+life) // it has gone just now
			x.waits(1)
			x.keeps(part(0, 8, true), since+life)
			x.makes(part(16, 20, false), since+life, made(part(0, 8, true), 9, places(0, 20)))
			x.waits(0)
		}
	}
}

func TestGone(t *testing.T) { // P18.4: whose time has come goes at each call with a time that may be, whatever comes of it
	for _, p := range []api.Packet{
		{}, piece(9, 0, false, "whole"), piece(9, 0, true, "abcdefgh"), piece(9, 0, true, "a"), piece(9, 1024, true, "abcdefgh"), piece(6, 0, true, "bbbbbbbb"),
	} {
		x := fresh(t, 4, 10)
		x.keeps(part(0, 8, true), 1)
		x.keeps(piece(8, 0, true, "abcdefgh"), 1)
		x.keeps(piece(6, 0, true, "abcdefgh"), 2)
		_, _, e := x.Take(p, 11)
		want := 1
		if p.ID == 9 && p.More && e == api.OK {
			want++
		}
		if p.ID == 6 {
			want--
		}
		x.waits(want)
	}
	x := fresh(t, 1, 10)
	x.keeps(part(0, 8, true), 1)
	x.refuses(piece(8, 0, true, "abcdefgh"), 10, api.ErrFull)
	x.keeps(piece(8, 0, true, "abcdefgh"), 11) // there is room again
	x.keeps(piece(8, 2, true, "abcdefgh"), 20)
	x.waits(1)
}

func TestBack(t *testing.T) { // P18.4: a time that is ahead of others counts as it is
	x := fresh(t, 2, 10)
	x.keeps(part(0, 8, true), 100)
	x.keeps(piece(8, 0, true, "abcdefgh"), 5)
	x.keeps(part(16, 24, true), 0)
	x.waits(2)
	x.keeps(part(24, 32, true), 15)
	x.waits(1)
	x.keeps(part(32, 40, true), 109)
	x.waits(1)
	x.keeps(piece(8, 0, true, "abcdefgh"), 110)
	x.waits(1)
}

func TestTwoOfThem(t *testing.T) { // R6: what one takes is nothing to another one
	x, y := fresh(t, 1, 10), fresh(t, 1, 10)
	x.keeps(part(0, 8, true), 1)
	y.waits(0)
	y.keeps(part(8, 12, false), 1)
	x.makes(part(8, 12, false), 1, made(part(0, 8, true), 9, places(0, 12)))
	y.waits(1)
	y.makes(part(0, 8, true), 1, made(part(0, 8, true), 9, places(0, 12)))
}

func TestNothingIsKept(t *testing.T) { // R5: an argument is not kept, nor is it in an answer
	for _, turned := range []bool{false, true} {
		x := fresh(t, 1, 10)
		a, b := part(0, 8, true), part(8, 12, false)
		if turned {
			a, b = b, a
		}
		s, bytes := lent(a.Data)
		p := a
		p.Data = s
		x.keeps(p, 1)
		clear(bytes)
		s, bytes = lent(b.Data)
		p = b
		p.Data = s
		q, is, e := x.Take(p, 1)
		clear(bytes)
		if !is || e != api.OK || q.Data != places(0, 12) {
			t.Errorf("Take: %s %v %v", brief(q), is, e)
		}
	}
	s, bytes := lent("whole")
	q, is, e := fresh(t, 1, 10).Take(piece(7, 0, false, s), 1)
	clear(bytes)
	if q != piece(7, 0, false, "whole") || !is || e != api.OK {
		t.Errorf("Take: %s %v %v", brief(q), is, e)
	}
}
