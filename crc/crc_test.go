package crc

import (
	"math"
	"strings"
	"testing"
)

// pattern is n bytes that repeat only after 256, from one of them on.
func pattern(n, from int) string {
	b := make([]byte, n)
	for i := range b {
		b[i] = byte((i+from)*7 + 3)
	}
	return string(b)
}

// zeros is n bytes 0.
func zeros(n int) string { return strings.Repeat("\x00", n) }

// allBytes is each byte once, the lowest first.
func allBytes() string {
	b := make([]byte, 256)
	for i := range b {
		b[i] = byte(i)
	}
	return string(b)
}

// byRule is the sum c, gone on over s, by the chapter's words, made by no function of this package.
func byRule(c uint32, s string) uint32 {
	row := c ^ 0xFFFFFFFF
	for _, b := range []byte(s) {
		row ^= uint32(b)
		for range 8 {
			if row%2 == 1 {
				row = row/2 ^ 0xEDB88320
			} else {
				row /= 2
			}
		}
	}
	return row ^ 0xFFFFFFFF
}

// someTexts are texts of all kinds of lengths and bytes.
func someTexts() []string {
	l := []string{"", "\x00", "\xff", "\x80", "\x01", "a", "abc", "123456789", "\xc3\xa4\xff\xfe", zeros(4), zeros(300), strings.Repeat("\xff", 70), allBytes()}
	for _, n := range []int{1, 2, 3, 4, 5, 7, 8, 31, 32, 33, 255, 256, 257, 1000} {
		l = append(l, pattern(n, n))
	}
	return l
}

// someSums are numbers that may be handed in as sums.
func someSums() []uint32 {
	l := []uint32{0, 1, 2, 0x80, 0xFF, 0x100, 0xEDB88320, 0xDEADBEEF, 0x7FFFFFFF, math.MaxUint32, math.MaxUint32 - 1}
	for i := range 32 {
		l = append(l, 1<<i, ^uint32(1<<i))
	}
	return l
}

// P7.1

// TestSumKnown: the sums were worked out elsewhere; that of 123456789 is the chapter's example.
func TestSumKnown(t *testing.T) {
	for _, c := range []struct {
		text string
		want uint32
	}{
		{"", 0},
		{"\x00", 0xD202EF8D},
		{"\xff", 0xFF000000},
		{"a", 0xE8B7BE43},
		{"abc", 0x352441C2},
		{"123456789", 0xCBF43926},
		{"The quick brown fox jumps over the lazy dog", 0x414FA339},
		{zeros(4), 0x2144DF1C},
		{zeros(32), 0x190A55AD},
		{strings.Repeat("\xff", 4), 0xFFFFFFFF},
		{strings.Repeat("\xff", 32), 0xFF6CAB0B},
		{allBytes(), 0x29058C73},
		{pattern(255, 0), 0x8AF1EB92},
		{pattern(256, 0), 0x78825239},
		{pattern(257, 0), 0x1476B46D},
		{pattern(65536, 0), 0xD660AF09},
		{strings.Repeat("a", 1000000), 0xDC25BFBC},
	} {
		if got := Sum(c.text); got != c.want {
			t.Errorf("P7.1 Sum of %d bytes (%.12q): %#x, want %#x", len(c.text), c.text, got, c.want)
		}
	}
}

// TestMoreKnown: the sums were worked out elsewhere.
func TestMoreKnown(t *testing.T) {
	texts := []string{"", "\x00", "a", "123456789", pattern(300, 0)}
	for _, c := range []struct {
		from uint32
		want [5]uint32
	}{
		{0, [5]uint32{0, 0xD202EF8D, 0xE8B7BE43, 0xCBF43926, 0xDE0E57CE}},
		{1, [5]uint32{1, 0xA505DF1B, 0x9FB08ED5, 0xDC8F2D65, 0xFE3CE87B}},
		{0x80000000, [5]uint32{0x80000000, 0xD282EF8D, 0xE837BE43, 0xD5442DFE, 0xA1B9C02F}},
		{0xFFFFFFFF, [5]uint32{0xFFFFFFFF, 0xFFFFFFFF, 0xC54AAE31, 0xD202D277, 0x94C527E3}},
		{0xDEADBEEF, [5]uint32{0xDEADBEEF, 0xE269BDDA, 0xD8DCEC14, 0xE34F7C78, 0x4167540F}},
		{0xCBF43926, [5]uint32{0xCBF43926, 0x00C49E49, 0x3A71CF87, 0x4B837AE4, 0x3C10CBAB}},
	} {
		for i, s := range texts {
			if got := More(c.from, s); got != c.want[i] {
				t.Errorf("P7.1 More(%#x, %.12q): %#x, want %#x", c.from, s, got, c.want[i])
			}
		}
	}
}

func TestSumAndMoreByTheRule(t *testing.T) {
	for _, s := range someTexts() {
		if got, want := Sum(s), byRule(0, s); got != want {
			t.Errorf("P7.1 Sum of %d bytes (%.12q): %#x, want %#x", len(s), s, got, want)
		}
		for _, c := range someSums() {
			if got, want := More(c, s), byRule(c, s); got != want {
				t.Errorf("P7.1 More(%#x, %d bytes %.12q): %#x, want %#x", c, len(s), s, got, want)
			}
		}
	}
}

// TestEachByte: each byte does its own thing, ahead of others and behind them.
func TestEachByte(t *testing.T) {
	seen := map[uint32]int{}
	for b := range 256 {
		s := string([]byte{byte(b)})
		for _, text := range []string{s, "x" + s, s + "x", s + s} {
			if got, want := Sum(text), byRule(0, text); got != want {
				t.Errorf("P7.1 Sum(%q): %#x, want %#x", text, got, want)
			}
		}
		seen[Sum(s)]++
	}
	if len(seen) != 256 {
		t.Errorf("P7.1 256 bytes have %d sums", len(seen))
	}
}

func TestMoreOverNothingAndFromZero(t *testing.T) {
	for _, c := range someSums() {
		if got := More(c, ""); got != c {
			t.Errorf("P7.1 More(%#x, no bytes): %#x", c, got)
		}
	}
	for _, s := range someTexts() {
		if Sum(s) != More(0, s) {
			t.Errorf("P7.1 Sum and More(0) of %.12q: %#x, %#x", s, Sum(s), More(0, s))
		}
	}
}

// P7.2

// TestJoinKnown: these were worked out elsewhere, as powers of two over the polynomial.
func TestJoinKnown(t *testing.T) {
	pairs := [5][2]uint32{{0xCBF43926, 0}, {1, 0}, {0x80000000, 0}, {0xFFFFFFFF, 0xDEADBEEF}, {0, 0x12345678}}
	for _, c := range []struct {
		n    uint64
		want [5]uint32
	}{
		{0, [5]uint32{0xCBF43926, 1, 0x80000000, 0x21524110, 0x12345678}},
		{1, [5]uint32{0xD2C671C4, 0x77073096, 0x800000, 0xF350AE9D, 0x12345678}},
		{2, [5]uint32{0x9CDBC0D8, 0x191B3141, 0x8000, 0x608B53EF, 0x12345678}},
		{3, [5]uint32{0x88948126, 0x01C26A37, 0x80, 0xDE139802, 0x12345678}},
		{255, [5]uint32{0x96DE8A69, 0x52955477, 0x278D37C1, 0xD5D757BC, 0x12345678}},
		{256, [5]uint32{0x34F80776, 0xCE3371CB, 0xEC447F11, 0x2CC4C448, 0x12345678}},
		{1 << 31, [5]uint32{0x410D22CA, 0x1DB71064, 0x8000000, 0x6CEFB30C, 0x12345678}},
		{1<<32 - 1, [5]uint32{0xCBF43926, 1, 0x80000000, 0x21524110, 0x12345678}},
		{1 << 32, [5]uint32{0xD2C671C4, 0x77073096, 0x800000, 0xF350AE9D, 0x12345678}},
		{1<<32 + 1, [5]uint32{0x9CDBC0D8, 0x191B3141, 0x8000, 0x608B53EF, 0x12345678}},
		{1 << 63, [5]uint32{0x410D22CA, 0x1DB71064, 0x8000000, 0x6CEFB30C, 0x12345678}},
		{math.MaxUint64 - 1, [5]uint32{0x958AAAB0, 0x100, 0x6567CB95, 0x2E383136, 0x12345678}},
		{math.MaxUint64, [5]uint32{0xCBF43926, 1, 0x80000000, 0x21524110, 0x12345678}},
	} {
		for i, p := range pairs {
			if got := Join(p[0], p[1], c.n); got != c.want[i] {
				t.Errorf("P7.2 Join(%#x, %#x, %d): %#x, want %#x", p[0], p[1], c.n, got, c.want[i])
			}
		}
	}
}

// TestJoinByTheRule: of any two numbers, with so many bytes 0 gone over one by one.
func TestJoinByTheRule(t *testing.T) {
	counts := []int{0, 1, 2, 3, 4, 5, 7, 8, 15, 16, 17, 31, 32, 33, 63, 64, 65, 127, 128, 255, 256, 257, 1000, 4095, 4096, 65537}
	for _, n := range counts {
		z := zeros(n)
		fixed := byRule(0, z)
		for i, a := range someSums() {
			if n > 300 && i > 12 {
				break
			}
			gone := byRule(a, z)
			for _, b := range []uint32{0, 1, a, 0x80000000, 0xCBF43926, math.MaxUint32} {
				if got, want := Join(a, b, uint64(n)), gone^b^fixed; got != want {
					t.Fatalf("P7.2 Join(%#x, %#x, %d): %#x, want %#x", a, b, n, got, want)
				}
			}
		}
	}
}

// TestJoinOfHuge: so many bytes 0 that none can go over them do what their parts do, one behind the other.
func TestJoinOfHuge(t *testing.T) {
	parts := []uint64{0, 1, 2, 1<<31 - 1, 1 << 31, 1<<32 - 1, 1 << 32, 1 << 40, 1<<62 + 12345, 1<<63 - 1}
	for _, a := range someSums() {
		if got := Join(a, 0, 0); got != a {
			t.Fatalf("P7.2 Join(%#x, 0, 0): %#x", a, got)
		}
		for _, n := range parts {
			for _, m := range parts {
				if one, two := Join(a, 7, n+m), Join(Join(a, 0, n), 7, m); one != two {
					t.Fatalf("P7.2 Join(%#x, 7, %d + %d): %#x, and part by part %#x", a, n, m, one, two)
				}
			}
		}
		// The rows of bits go round behind 2^32 - 1 steps, and 2^64 - 1 is a multiple of that.
		if got := Join(a, 3, math.MaxUint64); got != a^3 {
			t.Fatalf("P7.2 Join(%#x, 3, 2^64 - 1): %#x, want %#x", a, got, a^3)
		}
	}
}

// P7.3

func TestTextsInARow(t *testing.T) {
	if Join(Sum("a"), Sum("bc"), 2) != Sum("abc") {
		t.Errorf("P7.3 Join(Sum(a), Sum(bc), 2): %#x, want %#x", Join(Sum("a"), Sum("bc"), 2), Sum("abc"))
	}
	for _, first := range someTexts() {
		for _, second := range someTexts() {
			want := Sum(first + second)
			if got := More(Sum(first), second); got != want {
				t.Errorf("P7.3 More(Sum of %d bytes, %d bytes): %#x, want %#x", len(first), len(second), got, want)
			}
			if got := Join(Sum(first), Sum(second), uint64(len(second))); got != want {
				t.Errorf("P7.3 Join of %d and %d bytes: %#x, want %#x", len(first), len(second), got, want)
			}
		}
	}
}

func TestTextsInARowCutAnywhere(t *testing.T) {
	s := pattern(600, 11)
	want := Sum(s)
	for i := range len(s) + 1 {
		if More(Sum(s[:i]), s[i:]) != want || Join(Sum(s[:i]), Sum(s[i:]), uint64(len(s)-i)) != want {
			t.Fatalf("P7.3 a text of 600 bytes, cut behind %d: %#x and %#x, want %#x", i, More(Sum(s[:i]), s[i:]), Join(Sum(s[:i]), Sum(s[i:]), uint64(len(s)-i)), want)
		}
	}
}

// turned is s with the bits of a mask turned from bit at on, the lowest of each byte first, as the sum goes over them.
func turned(s string, at int, mask uint32) string {
	b := []byte(s)
	for i := range 32 {
		if place := at + i; mask>>i&1 == 1 {
			b[place/8] ^= 1 << (place % 8)
		}
	}
	return string(b)
}

// TestTurnedBits: bits within 32 in a row, wherever they stand.
func TestTurnedBits(t *testing.T) {
	s := pattern(12, 77)
	want := Sum(s)
	for at := 0; at+32 <= len(s)*8; at++ {
		mask := uint32(1)
		for i := range 3000 {
			m := mask
			if i < 1024 {
				m = uint32(i + 1)
			}
			if Sum(turned(s, at, m)) == want {
				t.Fatalf("P7.3 bits %#x turned from %d on: the same sum", m, at)
			}
			mask = mask*1664525 + 1013904223 // any rows of bits, none of them 0
			if mask == 0 {
				mask = 1
			}
		}
		for _, m := range []uint32{math.MaxUint32, 0x80000001, 0x80000000, 0xFFFF0000, 0xFF, 0xEDB88320, 0x82608EDB, 0xDB710641} {
			if Sum(turned(s, at, m)) == want {
				t.Fatalf("P7.3 bits %#x turned from %d on: the same sum", m, at)
			}
		}
	}
}

// TestTurnedBitsInLongTexts: one bit, or two within 32, anywhere in a longer text.
func TestTurnedBitsInLongTexts(t *testing.T) {
	s := pattern(300, 5)
	want := Sum(s)
	for at := 0; at+32 <= len(s)*8; at++ {
		for second := range 32 {
			if m := uint32(1) | 1<<second; Sum(turned(s, at, m)) == want {
				t.Fatalf("P7.3 bits %#x turned from %d on: the same sum", m, at)
			}
		}
	}
}
