package ring

import (
	"strings"
	"testing"

	"scrinium/sha"
)

// TestHash: the places were worked out elsewhere.
func TestHash(t *testing.T) {
	for path, want := range map[string]uint64{
		"":                        0xe3b0c44298fc1c14,
		"a":                       0xca978112ca1bbdca,
		"abc":                     0xba7816bf8f01cfea,
		"app/db.1/key":            0x5c0a36003b369db1,
		strings.Repeat("a", 1000): 0x41edece42d63e8d9,
	} {
		if got := Hash(path); got != want {
			t.Errorf("P26.1 Hash(%.20q): %#x, want %#x", path, got, want)
		}
	}
}

// TestHashOfSums: the first eight bytes of the sum, the highest first.
func TestHashOfSums(t *testing.T) {
	for n := range 200 {
		path := strings.Repeat("p/", n)
		want := uint64(0)
		for _, b := range []byte(sha.Of(path)[:8]) {
			want = want<<8 | uint64(b)
		}
		if got := Hash(path); got != want {
			t.Errorf("P26.1 Hash of %d bytes: %#x, want %#x", len(path), got, want)
		}
	}
}
