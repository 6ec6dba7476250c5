package rofs_test

import (
	"fmt"
	"testing"

	"pharos/api"
	"pharos/rofs"
)

// first is a block 0 that tells this, with right digests of itself.
func first(blocks, inodes, sums, table uint32, digest string) string {
	s := "pharos1\n" + le(blocks, inodes, sums, table) + digest
	return padded(s + sha(s))
}

// tells demands that Super and New answer what the model does.
func tells(t testing.TB, what, block string) bool {
	t.Helper()
	h, is := modelHead(block)
	want, code := api.Super{Blocks: h.blocks, Inodes: h.inodes, Sums: h.sums, Table: h.table, Digest: h.digest}, api.OK
	if !is {
		want, code = api.Super{}, api.ErrImage
	}
	if s, e := rofs.Super(block); e != code || s != want {
		t.Fatalf("Super, %s: %v %v, not %v", what, s, e, code)
	}
	if m, e := rofs.New(block); e != code || (m == nil) == is {
		t.Fatalf("New, %s: %v %v, not %v", what, m != nil, e, code)
	}
	return is
}

// P15.3, P15.4: what block 0 tells, and which ones tell nothing.
func TestSuper(t *testing.T) {
	digest := sha("digest")
	for _, x := range []struct {
		want                        bool
		blocks, inodes, sums, table uint32
	}{
		{true, 5, 2, 1, 2},
		{true, 5, 2, 2, 1},
		{true, 5, 2, 4, 3},
		{true, 3, 1, 1, 2},
		{true, 3, 1, 2, 1},
		{false, 5, 2, 5, 1}, // out of the image
		{false, 5, 2, 1, 5},
		{false, 5, 2, 0, 1}, // block 0
		{false, 5, 2, 1, 0},
		{false, 5, 2, 1, 1}, // one in both
		{false, 2, 1, 1, 2},
		{false, 2, 1, 1, 1},
		{false, 1, 1, 1, 1},
		{false, 1, 1, 0, 0},
		{false, 0, 1, 0, 0},
		{false, 0, 1, 1, 2},
		{false, 5, 0, 1, 2},
		{true, 1000, 1, 1, 33}, // 32 blocks of digests
		{false, 1000, 1, 1, 32},
		{true, 1000, 1, 968, 1},
		{false, 1000, 1, 969, 1},
		{true, 32, 1, 31, 1},
		{false, 33, 1, 32, 1},
		{true, 33, 1, 31, 1},
		{true, 99, 16, 95, 94}, // four blocks of digests
		{false, 99, 16, 96, 94},
		{true, 99, 17, 1, 97}, // two blocks of inodes
		{false, 99, 17, 1, 98},
		{true, 99, 16, 1, 98},
		{false, 99, 17, 5, 4},
		{true, 99, 17, 5, 3},
		{true, 99, 17, 6, 4},
		{false, 99, 40, 4, 6}, // the digests' last is the inodes' first
		{true, 99, 40, 4, 8},
		{false, 99, 40, 4, 7},
		{true, 99, 40, 4, 1},
		{false, 99, 40, 4, 2},
		{true, 65536, 1024, 1, 2049},
		{true, 65536, 1024, 65, 1},
		{true, 65536, 1024, 1, 65536 - 64},
		{false, 65536, 1024, 1, 65536 - 63},
		{true, 65536, 1024, 65536 - 2048, 1},
		{false, 65536, 1024, 65536 - 2047, 1},
		{false, 65537, 1, 1, 3000},
		{false, 65536, 1025, 1, 3000},
		{false, 65536, 1024, 1, 2048},
		{false, 1 << 31, 1, 1, 2},
		{false, 1<<32 - 1, 1, 1, 2},
		{false, 1<<32 - 1, 1<<32 - 1, 1<<32 - 1, 1<<32 - 1},
		{false, 5, 1<<32 - 1, 1, 2},
		{false, 5, 1 << 26, 1, 2}, // 2^32 bytes of inodes
		{false, 1 << 27, 2, 1, 2}, // 2^32 bytes of digests
		{false, 5, 2, 1<<32 - 1, 2},
		{false, 5, 2, 1, 1<<32 - 1},
		{false, 99, 17, 1, 1<<32 - 1}, // ends at block 1, if numbers went round
		{false, 99, 17, 1<<32 - 3, 1},
	} {
		what := fmt.Sprint(x)
		if got := tells(t, what, first(x.blocks, x.inodes, x.sums, x.table, digest)); got != x.want {
			t.Errorf("%s: %v", what, got)
		}
	}
}

// P15.3: each combination of few blocks.
func TestSuperFew(t *testing.T) {
	for blocks := range uint32(8) {
		for sums := range blocks + 2 {
			for table := range blocks + 2 {
				for _, inodes := range []uint32{0, 1, 16, 17, 33} {
					tells(t, fmt.Sprint(blocks, inodes, sums, table), first(blocks, inodes, sums, table, sha("x")))
				}
			}
		}
	}
}

// P15.3: no bit of block 0 may be another one.
func TestSuperBits(t *testing.T) {
	block := at(built(t, some()), 0)
	tells(t, "as it is", block)
	for bit := range 8 * 1024 {
		if tells(t, fmt.Sprint("bit ", bit), turned(block, bit)) {
			t.Fatalf("bit %d turned: it tells something", bit)
		}
	}
}

// P15.3: with a second digest that is right, the 8 bytes and those behind are still looked at; the first digest may be any.
func TestSuperParts(t *testing.T) {
	block := at(built(t, some()), 0)
	for bit := range 8 * 56 {
		b := []byte(turned(block, bit))
		copy(b[56:88], sha(string(b[:56])))
		is := tells(t, fmt.Sprint("sealed, bit ", bit), string(b))
		if bit < 64 && is || bit >= 8*24 && !is {
			t.Errorf("sealed, bit %d turned: %v", bit, is)
		}
	}
}

// P15.3: it has just BlockSize bytes.
func TestSuperLength(t *testing.T) {
	block := at(built(t, some()), 0)
	for n := range 1024 {
		if tells(t, "cut", block[:n]) {
			t.Errorf("%d bytes tell something", n)
		}
	}
	for _, s := range []string{block + "\x00", block + block, "\x00" + block, full(0, 1024), full(255, 1024), ""} {
		if tells(t, "another length", s) {
			t.Errorf("%d bytes tell something", len(s))
		}
	}
}
