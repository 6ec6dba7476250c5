package rofs_test

import (
	"math/rand"
	"strings"
	"testing"

	"pharos/api"
	"pharos/rofs"
)

// P15.1: a name has 1 to 32 bytes, each from 33 to 126 but the slash, and is neither . nor .. .
func TestLabel(t *testing.T) {
	for s, want := range map[string]bool{
		"":           false,
		"a":          true,
		".":          false,
		"..":         false,
		"...":        true,
		".a":         true,
		"a.":         true,
		"..a":        true,
		"/":          false,
		"a/":         false,
		"/a":         false,
		"a b":        false,
		" ":          false,
		"!":          true,
		"~":          true,
		"\x7f":       false,
		"index.html": true,
		"\n":         false,
		"a\n":        false,
		"a\x00":      false,
		"\xc3\xa4":   false,

		full('a', 31):          true,
		full('a', 32):          true,
		full('a', 33):          false,
		full('.', 32):          true,
		full('a', 1<<20):       false,
		full('a', 31) + " ":    false,
		full('a', 31) + "\xff": false,
	} {
		if got := rofs.Label(s); got != want {
			t.Errorf("Label(%q): %v", s, got)
		}
	}
}

// P15.1: each byte, at each place.
func TestLabelBytes(t *testing.T) {
	for c := range 256 {
		want := c >= 33 && c <= 126 && c != 47
		one := string([]byte{byte(c)})
		if got := rofs.Label(one); got != (want && c != 46) {
			t.Errorf("Label of the byte %d: %v", c, got)
		}
		for k := range 32 {
			s := full('x', k) + one + full('x', 31-k)
			if got := rofs.Label(s); got != want {
				t.Errorf("Label of the byte %d at the place %d: %v", c, k, got)
			}
		}
	}
}

// P15.1: against the model, of names that are nearly ones.
func TestLabelModel(t *testing.T) {
	r := rand.New(rand.NewSource(1501))
	for range 20000 {
		b := make([]byte, r.Intn(35))
		for k := range b {
			b[k] = "ab!~.\x20\x7f/"[r.Intn(8)]
			if r.Intn(4) > 0 {
				b[k] = "ab!~."[r.Intn(5)]
			}
		}
		if got := rofs.Label(string(b)); got != modelLabel(string(b)) {
			t.Fatalf("Label(%q): %v", b, got)
		}
	}
}

// P15.5: which texts are paths: those of 0 to 16 names, with slashes ahead of each.
func TestPaths(t *testing.T) {
	m := ready(t, built(t, nil))
	deep := strings.Repeat("/a", 16)
	long := strings.Repeat("/"+full('b', 32), 16)
	for path, want := range map[string]api.Errno{
		"/":                     api.OK,
		"/a":                    api.ErrNone,
		deep:                    api.ErrNone,
		long:                    api.ErrNone,
		deep + "/a":             api.ErrArg,
		long + "/b":             api.ErrArg,
		long + "b":              api.ErrArg,
		deep + "/":              api.ErrArg,
		"":                      api.ErrArg,
		"a":                     api.ErrArg,
		"a/b":                   api.ErrArg,
		"//":                    api.ErrArg,
		"/a/":                   api.ErrArg,
		"//a":                   api.ErrArg,
		"/a//b":                 api.ErrArg,
		"/.":                    api.ErrArg,
		"/..":                   api.ErrArg,
		"/a/..":                 api.ErrArg,
		"/./a":                  api.ErrArg,
		"/a/../b":               api.ErrArg,
		"/a b":                  api.ErrArg,
		"/a\x7f":                api.ErrArg,
		"/\x00":                 api.ErrArg,
		"/...":                  api.ErrNone,
		"/" + full('c', 33):     api.ErrArg,
		strings.Repeat("/", 99): api.ErrArg,
		full('/', 1<<20):        api.ErrArg,
		" /":                    api.ErrArg,
	} {
		if i, e := m.Lookup(path); e != want || e != api.OK && (i.Kind != 0 || i.Size != 0 || i.Extents != nil) {
			t.Errorf("Lookup(%.40q): %v %v", path, i, e)
		}
	}
}
