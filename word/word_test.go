package word

import (
	"math"
	"strings"
	"testing"
)

// numbers are edges of both sizes, and some between.
var numbers = []uint64{
	0, 1, 2, 127, 128, 255, 256, 258, 65535, 65536, 1 << 24, 0x01020304,
	1<<31 - 1, 1 << 31, 1<<32 - 1, 1 << 32, 1<<32 + 1, 1<<56 | 2,
	0x0102030405060708, 0xf0e1d2c3b4a59687, 1<<63 - 1, 1 << 63, 1<<64 - 1,
}

// allBytes is each byte once.
func allBytes() string {
	b := make([]byte, 256)
	for i := range b {
		b[i] = byte(i)
	}
	return string(b)
}

// P1.1

func TestPut32(t *testing.T) {
	for _, c := range []struct {
		n    uint32
		want string
	}{
		{0, "\x00\x00\x00\x00"},
		{1, "\x00\x00\x00\x01"},
		{258, "\x00\x00\x01\x02"},
		{0x01020304, "\x01\x02\x03\x04"},
		{0x80000000, "\x80\x00\x00\x00"},
		{math.MaxUint32, "\xff\xff\xff\xff"},
	} {
		if s := Put32(c.n); s != c.want {
			t.Errorf("P1.1 Put32(%d): %x, want %x", c.n, s, c.want)
		}
	}
}

func TestPut64(t *testing.T) {
	for _, c := range []struct {
		n    uint64
		want string
	}{
		{0, "\x00\x00\x00\x00\x00\x00\x00\x00"},
		{258, "\x00\x00\x00\x00\x00\x00\x01\x02"},
		{1 << 32, "\x00\x00\x00\x01\x00\x00\x00\x00"},
		{0x0102030405060708, "\x01\x02\x03\x04\x05\x06\x07\x08"},
		{1 << 63, "\x80\x00\x00\x00\x00\x00\x00\x00"},
		{math.MaxUint64, "\xff\xff\xff\xff\xff\xff\xff\xff"},
	} {
		if s := Put64(c.n); s != c.want {
			t.Errorf("P1.1 Put64(%d): %x, want %x", c.n, s, c.want)
		}
	}
}

func TestGet32(t *testing.T) {
	const s = "\x00\x01\x02\x03\xff\xfe"
	for _, c := range []struct {
		s    string
		at   int
		want uint32
		is   bool
	}{
		{s, 0, 0x00010203, true},
		{s, 1, 0x010203ff, true},
		{s, 2, 0x0203fffe, true},
		{s, 3, 0, false},
		{s, 6, 0, false},
		{s, 7, 0, false},
		{s, -1, 0, false},
		{s, -4, 0, false},
		{s, math.MaxInt, 0, false},
		{s, math.MaxInt - 3, 0, false},
		{s, math.MinInt, 0, false},
		{"\xff\xff\xff\xff", 0, math.MaxUint32, true},
		{"\x00\x00\x00\x00", 0, 0, true},
		{"\xff\xff\xff", 0, 0, false},
		{"\xff\xff\xff", -1, 0, false},
		{"", 0, 0, false},
		{"", -4, 0, false},
	} {
		if n, is := Get32(c.s, c.at); n != c.want || is != c.is {
			t.Errorf("P1.1 Get32(%x, %d): %d, %v, want %d, %v", c.s, c.at, n, is, c.want, c.is)
		}
	}
}

func TestGet64(t *testing.T) {
	const s = "\x00\x01\x02\x03\x04\x05\x06\x07\xff\xfe"
	for _, c := range []struct {
		s    string
		at   int
		want uint64
		is   bool
	}{
		{s, 0, 0x0001020304050607, true},
		{s, 1, 0x01020304050607ff, true},
		{s, 2, 0x020304050607fffe, true},
		{s, 3, 0, false},
		{s, 10, 0, false},
		{s, 11, 0, false},
		{s, -1, 0, false},
		{s, -8, 0, false},
		{s, math.MaxInt, 0, false},
		{s, math.MaxInt - 7, 0, false},
		{s, math.MinInt, 0, false},
		{"\xff\xff\xff\xff\xff\xff\xff\xff", 0, math.MaxUint64, true},
		{"\x00\x00\x00\x00\x00\x00\x00\x00", 0, 0, true},
		{"\xff\xff\xff\xff\xff\xff\xff", 0, 0, false},
		{"\xff\xff\xff\xff", 0, 0, false},
		{"", 0, 0, false},
		{"", -8, 0, false},
	} {
		if n, is := Get64(c.s, c.at); n != c.want || is != c.is {
			t.Errorf("P1.1 Get64(%x, %d): %d, %v, want %d, %v", c.s, c.at, n, is, c.want, c.is)
		}
	}
}

// P1.2

func TestTurn(t *testing.T) {
	const n = 0x80000001
	for _, c := range []struct {
		n    uint32
		by   int
		want uint32
	}{
		{1, 1, 1 << 31},
		{0x12345678, 4, 0x81234567},
		{0x12345678, 8, 0x78123456},
		{0x12345678, -8, 0x34567812},
		{n, 0, n},
		{n, 1, 0xc0000000},
		{n, -1, 0x00000003},
		{n, 31, 0x00000003},
		{n, -31, 0xc0000000},
		{n, 32, n},
		{n, -32, n},
		{n, 33, 0xc0000000},
		{n, -33, 0x00000003},
		{n, 320, n},
		{n, 1<<32 + 1, 0xc0000000},
		{n, math.MaxInt, 0x00000003},
		{n, math.MinInt, n},
		{n, math.MinInt + 1, 0xc0000000},
		{0, 5, 0},
		{math.MaxUint32, 17, math.MaxUint32},
	} {
		if x := Turn(c.n, c.by); x != c.want {
			t.Errorf("P1.2 Turn(%x, %d): %x, want %x", c.n, c.by, x, c.want)
		}
	}
}

func TestXor(t *testing.T) {
	for _, c := range []struct {
		a, b, want string
		is         bool
	}{
		{"", "", "", true},
		{"ab", "\x01\x02", "``", true},
		{"abc", "\x00\x00\x00", "abc", true},
		{"\xff\x00\xf0", "\x0f\xff\xf0", "\xf0\xff\x00", true},
		{"abc", "abc", "\x00\x00\x00", true},
		{"a", "", "", false},
		{"", "a", "", false},
		{"ab", "a", "", false},
		{"ab", "abc", "", false},
	} {
		if x, is := Xor(c.a, c.b); x != c.want || is != c.is {
			t.Errorf("P1.2 Xor(%x, %x): %x, %v, want %x, %v", c.a, c.b, x, is, c.want, c.is)
		}
	}
}

func TestEqual(t *testing.T) {
	for _, c := range []struct {
		a, b string
		want bool
	}{
		{"", "", true},
		{"a", "a", true},
		{"a\x00b\xff", "a\x00b\xff", true},
		{"a", "b", false},
		{"", "a", false},
		{"a", "", false},
		{"a", "aa", false},
		{"ab", "a", false},
		{"", "\x00", false},
		{"ab", "ba", false},
		{"\x03\x01", "\x01\x03", false},
		{"abc", "xbc", false},
		{"abc", "axc", false},
		{"abc", "abx", false},
		{"\x00\x00", "\x80\x80", false},
		{"A", "a", false},
	} {
		if x := Equal(c.a, c.b); x != c.want {
			t.Errorf("P1.2 Equal(%x, %x): %v", c.a, c.b, x)
		}
	}
}

// TestEqualEachBit: texts that differ in one bit, wherever it stands, are told.
func TestEqualEachBit(t *testing.T) {
	s := allBytes()[:32]
	for i := range 8 * len(s) {
		b := []byte(s)
		b[i/8] ^= 1 << (i % 8)
		if Equal(s, string(b)) || Equal(string(b), s) {
			t.Errorf("P1.2 Equal with bit %d turned about", i)
		}
	}
}

func TestHex(t *testing.T) {
	for _, c := range []struct{ s, want string }{
		{"", ""},
		{"\xab", "ab"},
		{"\x00", "00"},
		{"\x0f\xf0", "0ff0"},
		{"az", "617a"},
		{"\x01\x23\x45\x67\x89\xab\xcd\xef", "0123456789abcdef"},
	} {
		if x := Hex(c.s); x != c.want {
			t.Errorf("P1.2 Hex(%x): %s, want %s", c.s, x, c.want)
		}
		if x, is := Unhex(c.want); x != c.s || !is {
			t.Errorf("P1.2 Unhex(%s): %x, %v, want %x", c.want, x, is, c.s)
		}
	}
}

func TestUnhexWrong(t *testing.T) {
	for _, s := range []string{
		"0", "a", "abc", "0aFf", "AB", "A0", "0A", "0F", "F0", "0g", "g0", "zz",
		" 0", "0 ", "-1", "+1", "0x", "0x01", "ab\n", "0\x00", "\x00\x00", "\xff\xff", "é", "é0",
	} {
		if x, is := Unhex(s); x != "" || is {
			t.Errorf("P1.2 Unhex(%q): %x, %v", s, x, is)
		}
	}
}

// TestUnhexEachByte: no byte is a digit but those sixteen, as the first or as the second one, also behind what is right.
func TestUnhexEachByte(t *testing.T) {
	for c := range 256 {
		d := string([]byte{byte(c)})
		at := strings.Index("0123456789abcdef", d)
		for _, s := range []string{d + "0", "0" + d, "ab" + d + "0", "ab0" + d} {
			x, is := Unhex(s)
			if is != (at >= 0) || !is && x != "" {
				t.Errorf("P1.2 Unhex(%q): %x, %v", s, x, is)
			}
		}
		if x, _ := Unhex("0" + d); at >= 0 && x != string([]byte{byte(at)}) {
			t.Errorf("P1.2 Unhex(0%s): %x", d, x)
		}
	}
}

// P1.3

func TestPutGet(t *testing.T) {
	for _, n := range numbers {
		for _, ahead := range []string{"", "a", "\xff\xff\xff\xff\xff"} {
			s := ahead + Put64(n) + "\x01"
			if x, is := Get64(s, len(ahead)); x != n || !is {
				t.Errorf("P1.3 Get64 of Put64(%d) at %d: %d, %v", n, len(ahead), x, is)
			}
			s = ahead + Put32(uint32(n)) + "\x01"
			if x, is := Get32(s, len(ahead)); x != uint32(n) || !is {
				t.Errorf("P1.3 Get32 of Put32(%d) at %d: %d, %v", uint32(n), len(ahead), x, is)
			}
		}
	}
}

// TestPutEachBit: each bit of a number has a place of its own in its bytes.
func TestPutEachBit(t *testing.T) {
	for i := range 64 {
		want := make([]byte, 8)
		want[7-i/8] = 1 << (i % 8)
		if s := Put64(1 << i); s != string(want) {
			t.Errorf("P1.3 Put64(1<<%d): %x", i, s)
		}
		if i >= 32 {
			continue
		}
		if s := Put32(1 << i); s != string(want[4:]) {
			t.Errorf("P1.3 Put32(1<<%d): %x", i, s)
		}
	}
}

func TestTurnBack(t *testing.T) {
	for _, n := range numbers {
		x := uint32(n)
		for by := -70; by <= 70; by++ {
			if y := Turn(Turn(x, by), -by); y != x {
				t.Errorf("P1.3 Turn(%x, %d) and back: %x", x, by, y)
			}
			if Turn(x, by) != Turn(x, by+32) || Turn(x, by+1) != Turn(Turn(x, by), 1) {
				t.Errorf("P1.2 Turn(%x, %d): not modulo 32, or not place by place", x, by)
			}
		}
	}
}

func TestXorTwice(t *testing.T) {
	all := allBytes()
	for from := 0; from+7 <= len(all); from += 7 {
		a, b := all[from:], all[:len(all)-from]
		x, is := Xor(a, b)
		if !is {
			t.Fatalf("P1.2 Xor of %d bytes", len(a))
		}
		if y, is := Xor(x, b); y != a || !is {
			t.Errorf("P1.3 Xor twice from %d on: %x, %v", from, y, is)
		}
	}
}

func TestHexBack(t *testing.T) {
	all := allBytes()
	if x, is := Unhex(Hex(all)); x != all || !is {
		t.Errorf("P1.2 Unhex of Hex: %x, %v", x, is)
	}
	if n := len(Hex(all)); n != 512 {
		t.Errorf("P1.2 Hex: %d digits", n)
	}
}
