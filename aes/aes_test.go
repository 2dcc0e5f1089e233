package aes

import (
	"slices"
	"strings"
	"testing"

	"scrinium/api"
	"scrinium/word"
)

// pattern is n bytes that repeat only after 256, from one of them on.
func pattern(n, from int) string {
	b := make([]byte, n)
	for i := range b {
		b[i] = byte((i+from)*7 + 3)
	}
	return string(b)
}

// unhex is the bytes of a hex text that stands in a test.
func unhex(s string) string {
	b, is := word.Unhex(strings.ReplaceAll(s, " ", ""))
	if !is {
		panic("no hex text: " + s)
	}
	return b
}

// made is the cipher of a key, which must be one.
func made(t *testing.T, key string) *Cipher {
	t.Helper()
	c, err := New(key)
	if c == nil || err != api.OK {
		t.Fatalf("P4.1 New(%x): %v, %v", key, c, err)
	}
	return c
}

// bit is 16 bytes 0 but for one bit.
func bit(i int) string {
	b := make([]byte, 16)
	b[i/8] = 1 << (i % 8)
	return string(b)
}

// none are ciphers that New did not make.
func none() []*Cipher { return []*Cipher{nil, {}, new(Cipher)} }

// wrongSizes are how many bytes neither a key nor a block has.
func wrongSizes() []int { return []int{0, 1, 4, 8, 12, 15, 17, 24, 31, 32, 33, 48, 64, 256, 272} }

// known are blocks that were ciphered elsewhere: those of FIPS 197, of SP 800-38A, of known answer tests, and others.
func known() []struct{ key, block, want string } {
	const zero = "00000000000000000000000000000000"
	const ones = "ffffffffffffffffffffffffffffffff"
	const key = "2b7e151628aed2a6abf7158809cf4f3c"
	return []struct{ key, block, want string }{
		{key, "3243f6a8885a308d313198a2e0370734", "3925841d02dc09fbdc118597196a0b32"},
		{"000102030405060708090a0b0c0d0e0f", "00112233445566778899aabbccddeeff", "69c4e0d86a7b0430d8cdb78070b4c55a"},
		{key, "6bc1bee22e409f96e93d7e117393172a", "3ad77bb40d7a3660a89ecaf32466ef97"},
		{key, "ae2d8a571e03ac9c9eb76fac45af8e51", "f5d3d58503b9699de785895a96fdbaaf"},
		{key, "30c81c46a35ce411e5fbc1191a0a52ef", "43b1cd7f598ece23881b00e3ed030688"},
		{key, "f69f2445df4f9b17ad2b417be66c3710", "7b0c785e27e8ad3f8223207104725dd4"},
		{zero, "f34481ec3cc627bacd5dc3fb08f273e6", "0336763e966d92595a567cc9ce537f5e"},
		{zero, "80000000000000000000000000000000", "3ad78e726c1ec02b7ebfe92b23d9ec34"},
		{"80000000000000000000000000000000", zero, "0edd33d3c621e546455bd8ba1418bec8"},
		{zero, zero, "66e94bd4ef8a2c3b884cfa59ca342b2e"},
		{ones, ones, "bcbf217cb280cf30b2517052193ab979"},
		{zero, ones, "3f5b8cc9ea855a0afa7347d23e8d664e"},
		{ones, zero, "a1f6258c877d5fcd8964484538bfc92c"},
		{"030a11181f262d343b424950575e656c", "bfc6cdd4dbe2e9f0f7fe050c131a2128", "14ae016e8e3690713bd8d2063b5364c3"},
		{"bfc6cdd4dbe2e9f0f7fe050c131a2128", "030a11181f262d343b424950575e656c", "cc441d9aa6f2dfaa2960cba88280f618"},
		{"30313233343536373839616263646566", "6120626c6f636b206f66206279746573", "ebced9c5263dc6f2a8eb9eb0c9af9cb9"},
	}
}

// The chapter's words once more, made by no function of this package.

// timesByRule is the product, made in whole, and then taken modulo x^8 + x^4 + x^3 + x + 1.
func timesByRule(a, b byte) byte {
	p := 0
	for i := range 8 {
		if b>>i&1 == 1 {
			p ^= int(a) << i
		}
	}
	for i := 14; i >= 8; i-- {
		if p>>i&1 == 1 {
			p ^= 0x11b << (i - 8)
		}
	}
	return byte(p)
}

// inverseByRule is the byte whose product with b is 1, by trying all.
func inverseByRule(b byte) byte {
	for c := range 256 {
		if timesByRule(b, byte(c)) == 1 {
			return byte(c)
		}
	}
	return 0
}

// boxByRule is the box, bit by bit.
func boxByRule(b byte) byte {
	c := inverseByRule(b)
	var s byte
	for i := range 8 {
		one := c>>i ^ c>>((i+4)%8) ^ c>>((i+5)%8) ^ c>>((i+6)%8) ^ c>>((i+7)%8) ^ 99>>i
		s |= one & 1 << i
	}
	return s
}

// boxesByRule are the boxes of all bytes.
func boxesByRule() []byte {
	var l []byte
	for b := range 256 {
		l = append(l, boxByRule(byte(b)))
	}
	return l
}

// roundsByRule are the round keys.
func roundsByRule(box []byte, key string) []string {
	var w [][]byte
	for i := range 4 {
		w = append(w, []byte(key[4*i:4*i+4]))
	}
	r := byte(1)
	for i := 4; i <= 43; i++ {
		with := slices.Clone(w[i-1])
		if i%4 == 0 {
			p := w[i-1]
			with = []byte{box[p[1]] ^ r, box[p[2]], box[p[3]], box[p[0]]}
			r = timesByRule(r, 2)
		}
		for j := range with {
			with[j] ^= w[i-4][j]
		}
		w = append(w, with)
	}
	var keys []string
	for i := range 11 {
		keys = append(keys, string(slices.Concat(w[4*i:4*i+4]...)))
	}
	return keys
}

// blockByRule is a block ciphered.
func blockByRule(box []byte, keys []string, s string) string {
	s, _ = word.Xor(s, keys[0])
	for round := 1; round <= 10; round++ {
		var a [4][4]byte // by rows, and columns
		for i := range 16 {
			row := i % 4
			a[row][(i/4-row+4)%4] = box[s[i]]
		}
		out := make([]byte, 16)
		for i := range 16 {
			row, column := i%4, i/4
			out[i] = a[row][column]
			if round < 10 {
				out[i] = timesByRule(2, a[row][column]) ^ timesByRule(3, a[(row+1)%4][column]) ^ a[(row+2)%4][column] ^ a[(row+3)%4][column]
			}
		}
		s, _ = word.Xor(string(out), keys[round])
	}
	return s
}

// P4.1

func TestTimes(t *testing.T) {
	for a := range 256 {
		for b := range 256 {
			x, y := byte(a), byte(b)
			if p := Times(x, y); p != timesByRule(x, y) {
				t.Fatalf("P4.1 Times(%d, %d): %d, want %d", a, b, p, timesByRule(x, y))
			}
		}
	}
}

// TestTimesKnown: products that were worked out elsewhere; those of FIPS 197 first.
func TestTimesKnown(t *testing.T) {
	for _, c := range []struct{ a, b, want byte }{
		{0x57, 0x83, 0xc1}, {0x57, 0x13, 0xfe}, {0x57, 0x02, 0xae}, {0x57, 0x04, 0x47}, {0x57, 0x08, 0x8e}, {0x57, 0x10, 0x07},
		{0, 0, 0}, {0, 255, 0}, {255, 0, 0}, {1, 255, 255}, {255, 1, 255}, {128, 2, 0x1b}, {2, 128, 0x1b}, {0x53, 0xca, 1}, {255, 255, 0x13},
	} {
		if p := Times(c.a, c.b); p != c.want {
			t.Errorf("P4.1 Times(%x, %x): %x, want %x", c.a, c.b, p, c.want)
		}
	}
}

func TestBox(t *testing.T) {
	for b, want := range boxesByRule() {
		if s := Box(byte(b)); s != want {
			t.Errorf("P4.1 Box(%x): %x, want %x", b, s, want)
		}
		if s := Unbox(want); s != byte(b) {
			t.Errorf("P4.1 Unbox(%x): %x, want %x", want, s, b)
		}
	}
}

// TestBoxKnown: boxes as they stand in FIPS 197.
func TestBoxKnown(t *testing.T) {
	for b, want := range map[byte]byte{
		0x00: 0x63, 0x01: 0x7c, 0x02: 0x77, 0x03: 0x7b, 0x0f: 0x76, 0x10: 0xca, 0x52: 0x00, 0x53: 0xed,
		0x63: 0xfb, 0x7f: 0xd2, 0x80: 0xcd, 0x8f: 0x73, 0xc9: 0xdd, 0xf0: 0x8c, 0xfe: 0xbb, 0xff: 0x16,
	} {
		if s := Box(b); s != want {
			t.Errorf("P4.1 Box(%x): %x, want %x", b, s, want)
		}
		if s := Unbox(want); s != b {
			t.Errorf("P4.1 Unbox(%x): %x, want %x", want, s, b)
		}
	}
}

// TestBoxBack: each byte is the box of one byte, and of no other.
func TestBoxBack(t *testing.T) {
	seen := map[byte]int{}
	for b := range 256 {
		s := Box(byte(b))
		if was, is := seen[s]; is {
			t.Errorf("P4.1 Box(%x): that of %x", b, was)
		}
		seen[s] = b
		if Unbox(s) != byte(b) || Box(Unbox(byte(b))) != byte(b) {
			t.Errorf("P4.1 Box and Unbox of %x: there and back is another one", b)
		}
	}
}

func TestNewWrong(t *testing.T) {
	for _, n := range wrongSizes() {
		if c, err := New(pattern(n, 0)); c != nil || err != api.ErrArg {
			t.Errorf("P4.1 New of %d bytes: %v, %v", n, c, err)
		}
	}
	if c, err := New("2b7e151628aed2a6abf7158809cf4f3c"); c != nil || err != api.ErrArg {
		t.Errorf("P4.1 New of a hex text: %v, %v", c, err)
	}
}

// TestRoundsKnown: the round keys of FIPS 197.
func TestRoundsKnown(t *testing.T) {
	want := []string{
		unhex("2b7e1516 28aed2a6 abf71588 09cf4f3c"),
		unhex("a0fafe17 88542cb1 23a33939 2a6c7605"),
		unhex("f2c295f2 7a96b943 5935807a 7359f67f"),
		unhex("3d80477d 4716fe3e 1e237e44 6d7a883b"),
		unhex("ef44a541 a8525b7f b671253b db0bad00"),
		unhex("d4d1c6f8 7c839d87 caf2b8bc 11f915bc"),
		unhex("6d88a37a 110b3efd dbf98641 ca0093fd"),
		unhex("4e54f70e 5f5fc9f3 84a64fb2 4ea6dc4f"),
		unhex("ead27321 b58dbad2 312bf560 7f8d292f"),
		unhex("ac7766f3 19fadc21 28d12941 575c006e"),
		unhex("d014f9a8 c9ee2589 e13f0cc8 b6630ca6"),
	}
	if l := made(t, want[0]).Rounds(); !slices.Equal(l, want) {
		t.Errorf("P4.1 Rounds: %x, want %x", l, want)
	}
}

func TestRoundsRule(t *testing.T) {
	box := boxesByRule()
	for i := range 300 {
		key := pattern(16, i)
		if i >= 256 {
			key = bit(i - 256)
		}
		if l, want := made(t, key).Rounds(), roundsByRule(box, key); !slices.Equal(l, want) {
			t.Errorf("P4.1 Rounds of %x: %x, want %x", key, l, want)
		}
	}
	for _, key := range []string{strings.Repeat("\x00", 16), strings.Repeat("\xff", 16)} {
		if l, want := made(t, key).Rounds(), roundsByRule(box, key); !slices.Equal(l, want) {
			t.Errorf("P4.1 Rounds of %x: %x, want %x", key, l, want)
		}
	}
}

func TestRoundsNone(t *testing.T) {
	for _, c := range none() {
		if l := c.Rounds(); l != nil {
			t.Errorf("P4.1 Rounds of nil, or of none of New's: %x", l)
		}
	}
}

// TestRoundsNewMemory: an answer that is changed changes neither the cipher nor the next answer.
func TestRoundsNewMemory(t *testing.T) {
	c := made(t, pattern(16, 0))
	was, _ := c.Block(pattern(16, 1))
	l := c.Rounds()
	keys := slices.Clone(l)
	clear(l)
	if !slices.Equal(c.Rounds(), keys) {
		t.Error("P4.1 Rounds: an answer that was changed changes the next one")
	}
	if s, _ := c.Block(pattern(16, 1)); s != was {
		t.Error("P4.1 Rounds: an answer that was changed changes the cipher")
	}
}

// P4.2

func TestBlockKnown(t *testing.T) {
	for _, k := range known() {
		c := made(t, unhex(k.key))
		if s, is := c.Block(unhex(k.block)); word.Hex(s) != k.want || !is {
			t.Errorf("P4.2 Block(%s) by %s: %x, %v, want %s", k.block, k.key, s, is, k.want)
		}
		if s, is := c.Back(unhex(k.want)); word.Hex(s) != k.block || !is {
			t.Errorf("P4.2 Back(%s) by %s: %x, %v, want %s", k.want, k.key, s, is, k.block)
		}
	}
}

func TestBlockRule(t *testing.T) {
	box := boxesByRule()
	for i := range 100 {
		key := pattern(16, 3*i)
		c, keys := made(t, key), roundsByRule(box, key)
		for j := range 10 {
			s := pattern(16, i+20*j)
			want := blockByRule(box, keys, s)
			if x, is := c.Block(s); x != want || !is {
				t.Errorf("P4.2 Block(%x) by %x: %x, %v, want %x", s, key, x, is, want)
			}
			if x, is := c.Back(want); x != s || !is {
				t.Errorf("P4.2 Back(%x) by %x: %x, %v, want %x", want, key, x, is, s)
			}
		}
	}
}

// TestBlockChains: what is ciphered is ciphered again and again, with each bit of blocks and of keys in turn; the ends were worked out elsewhere.
func TestBlockChains(t *testing.T) {
	zero := strings.Repeat("\x00", 16)
	block, c := zero, made(t, pattern(16, 0))
	for range 1000 {
		block, _ = c.Block(block)
	}
	if s := word.Hex(block); s != "45bb7ba2f52138bda72e32a06b8d7d64" {
		t.Errorf("P4.2 Block 1,000 times by one key: %s", s)
	}
	key, block := zero, zero
	for range 10000 {
		next, _ := made(t, key).Block(block)
		key, block = block, next
	}
	if s := word.Hex(block); s != "2a9e03b609d846a96b6d45bf8b0be0f5" {
		t.Errorf("P4.2 Block 10,000 times by keys that are ciphered: %s", s)
	}
	block, c = zero, made(t, zero)
	for i := range 128 {
		s, _ := word.Xor(block, bit(i))
		block, _ = c.Block(s)
	}
	if s := word.Hex(block); s != "ce42caca72c252f817ecd67c587a64c7" {
		t.Errorf("P4.2 Block with each bit of a block: %s", s)
	}
	block = zero
	for i := range 128 {
		block, _ = made(t, bit(i)).Block(block)
	}
	if s := word.Hex(block); s != "84e64ebe572e12260fa986a6e0e224de" {
		t.Errorf("P4.2 Block with each bit of a key: %s", s)
	}
}

func TestBlockWrong(t *testing.T) {
	c := made(t, pattern(16, 0))
	for _, n := range wrongSizes() {
		if s, is := c.Block(pattern(n, 0)); s != "" || is {
			t.Errorf("P4.2 Block of %d bytes: %x, %v", n, s, is)
		}
		if s, is := c.Back(pattern(n, 0)); s != "" || is {
			t.Errorf("P4.2 Back of %d bytes: %x, %v", n, s, is)
		}
	}
}

func TestBlockNone(t *testing.T) {
	for _, c := range none() {
		for _, n := range append(wrongSizes(), 16) {
			if s, is := c.Block(pattern(n, 0)); s != "" || is {
				t.Errorf("P4.2 Block of %d bytes of nil, or of none of New's: %x, %v", n, s, is)
			}
			if s, is := c.Back(pattern(n, 0)); s != "" || is {
				t.Errorf("P4.2 Back of %d bytes of nil, or of none of New's: %x, %v", n, s, is)
			}
		}
	}
}

// TestCiphersApart: a cipher answers the same whatever it, or another one, was asked ahead.
func TestCiphersApart(t *testing.T) {
	s, first := pattern(16, 5), made(t, pattern(16, 0))
	a, _ := first.Block(s)
	second := made(t, pattern(16, 1))
	b, _ := second.Block(s)
	if a == b {
		t.Error("P4.2 Block by two keys: the same")
	}
	for range 3 {
		first.Back(s)
		second.Block("short")
		second.Rounds()
		if x, is := first.Block(s); x != a || !is {
			t.Errorf("P4.2 Block asked again: %x, %v, want %x", x, is, a)
		}
		if x, is := second.Block(s); x != b || !is {
			t.Errorf("P4.2 Block asked again by another key: %x, %v, want %x", x, is, b)
		}
	}
}

// P4.3

// TestThereAndBack: what is ciphered comes back, and what comes back is ciphered to what it was.
func TestThereAndBack(t *testing.T) {
	for i := range 200 {
		c := made(t, pattern(16, 5*i))
		for _, s := range []string{pattern(16, i), bit(i % 128), strings.Repeat("\x00", 16), strings.Repeat("\xff", 16)} {
			there, _ := c.Block(s)
			if x, is := c.Back(there); x != s || !is {
				t.Errorf("P4.3 Back of Block(%x): %x, %v", s, x, is)
			}
			back, _ := c.Back(s)
			if x, is := c.Block(back); x != s || !is {
				t.Errorf("P4.3 Block of Back(%x): %x, %v", s, x, is)
			}
		}
	}
}

// TestUnlike: blocks that differ, in one bit or in more, are ciphered unlike, and come back unlike.
func TestUnlike(t *testing.T) {
	c := made(t, pattern(16, 9))
	there, back := map[string]string{}, map[string]string{}
	tell := func(s string) {
		x, _ := c.Block(s)
		y, _ := c.Back(s)
		if was, is := there[x]; is {
			t.Errorf("P4.3 Block(%x): that of %x", s, was)
		}
		if was, is := back[y]; is {
			t.Errorf("P4.3 Back(%x): that of %x", s, was)
		}
		there[x], back[y] = s, s
	}
	tell(strings.Repeat("\x00", 16))
	for i := range 128 {
		tell(bit(i))
	}
	for i := range 256 {
		tell(pattern(16, i))
	}
	for i := range uint64(2000) {
		tell(word.Put64(3) + word.Put64(i))
	}
}
