package hkdf

import "testing"

// Ways: the pieces never end, and are told anew each time that they are gone through.
func TestPiecesNeverEnd(t *testing.T) {
	all := pieces("key", "info")
	begin := ""
	for range 2 {
		count := 0
		for piece := range all {
			if count == 0 && begin == "" {
				begin = piece
			}
			if count == 0 && piece != begin || len(piece) != 32 {
				t.Fatalf("the piece %d: %x", count, piece)
			}
			if count++; count == 1000 {
				break
			}
		}
		if count != 1000 {
			t.Fatalf("%d pieces", count)
		}
	}
}

// Ways: they are left as soon as there is enough, and none is asked for behind that.
func TestPiecesAreLeft(t *testing.T) {
	for n, want := range map[int]int{1: 1, 31: 1, 32: 1, 33: 2, 64: 2, 65: 3, 8159: 255, 8160: 255} {
		count := 0
		s := first(n, func(yield func(string) bool) {
			for piece := range pieces("key", "info") {
				count++
				if !yield(piece) {
					return
				}
			}
		})
		if len(s) != n || count != want {
			t.Errorf("%d bytes: %d bytes of %d pieces", n, len(s), count)
		}
	}
}
