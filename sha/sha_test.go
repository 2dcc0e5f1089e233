package sha

import (
	"slices"
	"strings"
	"testing"

	"scrinium/word"
)

// pattern is n bytes that repeat only after 256.
func pattern(n int) string {
	b := make([]byte, n)
	for i := range b {
		b[i] = byte(i*7 + 3)
	}
	return string(b)
}

// known are sums of texts that were worked out elsewhere.
func known() []struct{ text, sum string } {
	return []struct{ text, sum string }{
		{"", "e3b0c44298fc1c149afbf4c8996fb92427ae41e4649b934ca495991b7852b855"},
		{"abc", "ba7816bf8f01cfea414140de5dae2223b00361a396177a9cb410ff61f20015ad"},
		{"abcdbcdecdefdefgefghfghighijhijkijkljklmklmnlmnomnopnopq", "248d6a61d20638b8e5c026930c3e6039a33ce45964ff2167f6ecedd419db06c1"},
		{"abcdefghbcdefghicdefghijdefghijkefghijklfghijklmghijklmnhijklmnoijklmnopjklmnopqklmnopqrlmnopqrsmnopqrstnopqrstu", "cf5b16a778af8380036ce59e7b0492370b249b11e8f07a51afac45037afee9d1"},
		{strings.Repeat("a", 1000000), "cdc76e5c9914fb9281a1c7e284d73e67f1809a48a497200e046d39ccc7112cd0"},
		{strings.Repeat("\x00", 64), "f5a5fd42d16a20302798ef6ed309979b43003d2320d9f0e8ea9831a92759fb4b"},
		{strings.Repeat("\xff", 64), "8667e718294e9e0df1d30600ba3eeb201f764aad2dad72748643e4a285e1d1f7"},
		{pattern(1), "084fed08b978af4d7d196a7446a86b58009e636b611db16211b65a9aadff29c5"},
		{pattern(54), "160bbf14b458c877b7049e7cb5771dd653930f97d20bdd8ee795c16062906233"},
		{pattern(55), "e7313d333c272e639f790978283f9eb392e843d0f29b7016828bb1daa4aac70b"},
		{pattern(56), "4324d65f3c103567f5589c710bc08f8523f929a9272e3af36fc968e52abc6c27"},
		{pattern(57), "35df609437dcfea3279283ab79fd554e2bf78f8f7ae2de532d8ee300b09e8f73"},
		{pattern(63), "81c80242132f230c3bd41b3e63bbcff16107339549214a99614ff26664625055"},
		{pattern(64), "39e3d7b6b5d075d37d053ad89b24b41bef4f3c29760c84447cab3f3be1882241"},
		{pattern(65), "aacca6ff74fdbb296d165a45cecfa04e5127bc008770fbbdd48006f2d2fae95e"},
		{pattern(118), "2c49b89c5aaaaaa69ae70251cc0803f14afaf1a2caa461fa6b083750bc07ce88"},
		{pattern(119), "9ce7368e4daf32341631b492e80359dc9f594b48453cd0dd5bf0b19279cc177e"},
		{pattern(120), "7836b787757e95e58b3ca5aec90b1b004e8deba1e50e9675af9cabf1a13a04b5"},
		{pattern(127), "a8d23e75d936f303d248888d9b165ee543f4cbafcad3c9dd2a79bd84faa11d07"},
		{pattern(128), "d2742f1f4ac6bb7ca2b239ee18402ba8b3f9f8e652d2a72973c2b9ba11c08cf6"},
		{pattern(129), "307f8fc2c1622b92762e818d39a185d4d667ad49a4b07ceae1f4afa008a93ec4"},
		{pattern(1000), "1e9bc38cbf860b9ec31918b065f9b52476c549a782e0e7990bed8ce3868d2371"},
	}
}

// P2.1

func TestOf(t *testing.T) {
	for _, c := range known() {
		if s := word.Hex(Of(c.text)); s != c.sum {
			t.Errorf("P2.1 Of(%d bytes): %s, want %s", len(c.text), s, c.sum)
		}
	}
}

// TestOfEachLength: the sum of the sums of all texts up to some blocks long is the one that was worked out elsewhere.
func TestOfEachLength(t *testing.T) {
	var sums []string
	for n := range 300 {
		sums = append(sums, Of(pattern(n)))
	}
	const want = "7b074096cabb18dd0d1b468a173cb2f97f80e952525bca29542e606fd6d0753a"
	if s := word.Hex(Of(sums...)); s != want {
		t.Errorf("P2.1 Of for 0 to 299 bytes: %s, want %s", s, want)
	}
}

func TestOfNothing(t *testing.T) {
	want := known()[0].sum
	for _, l := range [][]string{nil, {}, {""}, {"", "", ""}} {
		if s := word.Hex(Of(l...)); s != want {
			t.Errorf("P2.1 Of of %d empty texts: %s, want %s", len(l), s, want)
		}
	}
}

func TestNewAdd(t *testing.T) {
	for _, c := range known() {
		h := New()
		h.Add(c.text)
		if s := word.Hex(h.Sum()); s != c.sum {
			t.Errorf("P2.1 Sum behind Add(%d bytes): %s, want %s", len(c.text), s, c.sum)
		}
		if n := h.Len(); n != uint64(len(c.text)) {
			t.Errorf("P2.1 Len behind Add(%d bytes): %d", len(c.text), n)
		}
	}
}

// TestNewApart: what comes to one Hash does not come to another.
func TestNewApart(t *testing.T) {
	a, b := New(), New()
	a.Add(pattern(100))
	if s := word.Hex(b.Sum()); s != known()[0].sum || b.Len() != 0 {
		t.Errorf("P2.1 New beside another: %s, %d", s, b.Len())
	}
	b.Add("abc")
	if a.Sum() != Of(pattern(100)) || b.Sum() != Of("abc") {
		t.Error("P2.1 two at a time: sums are mixed up")
	}
}

func TestLenGoesOn(t *testing.T) {
	h := New()
	if h.Len() != 0 {
		t.Errorf("P2.1 Len of New: %d", h.Len())
	}
	var sum uint64
	for _, n := range []int{0, 1, 62, 0, 1, 64, 65, 127, 1000, 3} {
		h.Add(pattern(n))
		sum += uint64(n)
		if h.Len() != sum {
			t.Errorf("P2.1 Len: %d, want %d", h.Len(), sum)
		}
	}
}

// TestManyBits: more bits than four bytes tell are counted with all eight.
func TestManyBits(t *testing.T) {
	if testing.Short() {
		t.Skip("512 MiB")
	}
	const want = "bf6084769b780af4396e058ef0eaf9ca59366db146ca86ebfcaf58cbf7a35669"
	h := New()
	piece := strings.Repeat("a", 1<<20)
	for range 512 {
		h.Add(piece)
	}
	h.Add("a")
	if s := word.Hex(h.Sum()); s != want || h.Len() != 1<<29+1 {
		t.Errorf("P2.1 Sum of 2^29 + 1 bytes: %s, %d, want %s", s, h.Len(), want)
	}
}

func TestNil(t *testing.T) {
	for _, h := range []*Hash{nil, {}, new(Hash)} {
		h.Add("abc")
		h.Add(pattern(200))
		if s := h.Sum(); s != "" {
			t.Errorf("P2.1 Sum of nil, or of none of New's: %x", s)
		}
		if n := h.Len(); n != 0 {
			t.Errorf("P2.1 Len of nil, or of none of New's: %d", n)
		}
	}
}

// P2.2

// TestWordsABC: the words of the padded text abc, as they were worked out elsewhere.
func TestWordsABC(t *testing.T) {
	block := "abc\x80" + strings.Repeat("\x00", 52) + word.Put64(24)
	w := Words(block)
	if len(w) != 64 {
		t.Fatalf("P2.2 Words: %d", len(w))
	}
	for at, want := range map[int]uint32{
		0: 0x61626380, 1: 0, 14: 0, 15: 0x18, 16: 0x61626380, 17: 0x000f0000, 18: 0x7da86405, 63: 0x12b1edeb,
	} {
		if w[at] != want {
			t.Errorf("P2.2 Words of abc: word %d is %08x, want %08x", at, w[at], want)
		}
	}
}

// turned is n turned to the right by a way of its own: bit by bit.
func turned(n uint32, by int) uint32 {
	var x uint32
	for i := range 32 {
		x |= n >> i & 1 << ((i + 32 - by) % 32)
	}
	return x
}

// TestWordsRule: each word is what the chapter's rule makes of those ahead of it.
func TestWordsRule(t *testing.T) {
	for _, block := range []string{pattern(64), strings.Repeat("\xff", 64), pattern(300)[200:264]} {
		w := Words(block)
		for i := range 16 {
			n := uint32(block[4*i])<<24 | uint32(block[4*i+1])<<16 | uint32(block[4*i+2])<<8 | uint32(block[4*i+3])
			if w[i] != n {
				t.Errorf("P2.2 Words: word %d is %08x, want %08x", i, w[i], n)
			}
		}
		for i := 16; i < 64; i++ {
			a, b := w[i-2], w[i-15]
			s1 := turned(a, 17) ^ turned(a, 19) ^ a>>10
			s0 := turned(b, 7) ^ turned(b, 18) ^ b>>3
			if want := s1 + w[i-7] + s0 + w[i-16]; w[i] != want {
				t.Errorf("P2.2 Words: word %d is %08x, want %08x", i, w[i], want)
			}
		}
	}
}

func TestWordsOfZeros(t *testing.T) {
	if w := Words(strings.Repeat("\x00", 64)); !slices.Equal(w, make([]uint32, 64)) {
		t.Errorf("P2.2 Words of bytes 0: %x", w)
	}
}

func TestWordsWrong(t *testing.T) {
	for _, n := range []int{0, 1, 4, 32, 60, 63, 65, 68, 127, 128, 256} {
		if w := Words(pattern(n)); w != nil {
			t.Errorf("P2.2 Words of %d bytes: %x", n, w)
		}
	}
}

func TestWordsNewMemory(t *testing.T) {
	a := Words(pattern(64))
	b := slices.Clone(a)
	clear(a)
	if c := Words(pattern(64)); !slices.Equal(b, c) {
		t.Error("P2.2 Words: an answer that was changed changes the next one")
	}
}

// P2.3

// TestCutInTwo: wherever a text is cut, its sum is the same, by Of and by Add.
func TestCutInTwo(t *testing.T) {
	for _, n := range []int{1, 55, 56, 63, 64, 65, 119, 127, 128, 129, 200} {
		s := pattern(n)
		want := Of(s)
		for at := range n + 1 {
			if Of(s[:at], s[at:]) != want || Of("", s[:at], "", s[at:], "") != want {
				t.Errorf("P2.3 Of(%d bytes) cut at %d: another sum", n, at)
			}
			h := New()
			h.Add(s[:at])
			h.Add(s[at:])
			if h.Sum() != want || h.Len() != uint64(n) {
				t.Errorf("P2.3 Add of %d bytes cut at %d: another sum", n, at)
			}
		}
	}
}

// TestCutInMany: in pieces of whatever length, its sum is the same.
func TestCutInMany(t *testing.T) {
	s := pattern(517)
	want := Of(s)
	for size := 1; size <= 140; size++ {
		h := New()
		var pieces []string
		for at := 0; at < len(s); at += size {
			piece := s[at:min(at+size, len(s))]
			pieces = append(pieces, piece)
			h.Add(piece)
		}
		if h.Sum() != want || Of(pieces...) != want {
			t.Errorf("P2.3 in pieces of %d: another sum", size)
		}
	}
}

// TestSumChangesNothing: sums that are asked between change none that comes later, and are the same when asked again.
func TestSumChangesNothing(t *testing.T) {
	s := pattern(300)
	h := New()
	for n := range len(s) + 1 {
		want := Of(s[:n])
		for range 2 {
			if h.Sum() != want || h.Len() != uint64(n) {
				t.Fatalf("P2.3 Sum behind %d bytes, one by one: another sum", n)
			}
		}
		if n < len(s) {
			h.Add(s[n : n+1])
		}
	}
}

// TestAddNothing: a text without bytes changes nothing.
func TestAddNothing(t *testing.T) {
	for _, n := range []int{0, 1, 63, 64, 65, 128} {
		h := New()
		h.Add("")
		h.Add(pattern(n))
		h.Add("")
		if h.Sum() != Of(pattern(n)) || h.Len() != uint64(n) {
			t.Errorf("P2.3 Add of nothing beside %d bytes: another sum", n)
		}
	}
}

func TestListNotChanged(t *testing.T) {
	l := []string{pattern(70), "", pattern(3)}
	was := slices.Clone(l)
	Of(l...)
	if !slices.Equal(l, was) {
		t.Error("P2.1 Of changes its texts")
	}
}
