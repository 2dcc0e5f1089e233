package ctr

import (
	"math"
	"strings"
	"testing"

	"scrinium/aes"
	"scrinium/api"
	"scrinium/sha"
	"scrinium/word"
)

const last = math.MaxUint32 // the greatest number of a block

// pattern is n bytes that repeat only after 256, from one of them on.
func pattern(n, from int) string {
	b := make([]byte, n)
	for i := range b {
		b[i] = byte((i+from)*7 + 3)
	}
	return string(b)
}

// aKey and aNonce are right ones.
func aKey() string   { return pattern(16, 0) }
func aNonce() string { return pattern(12, 1) }

// zeros are n bytes 0.
func zeros(n int) string { return strings.Repeat("\x00", n) }

// unhex is the bytes of a hex text that stands in a test.
func unhex(s string) string {
	b, is := word.Unhex(s)
	if !is {
		panic("no hex text: " + s)
	}
	return b
}

// byRule is the first n bytes of the stream by the chapter's words, made by no function of this package.
func byRule(t *testing.T, key, nonce string, from uint64, n int) string {
	t.Helper()
	c, err := aes.New(key)
	if err != api.OK {
		t.Fatalf("aes.New(%x): %v", key, err)
	}
	var l []string
	for i := 0; 16*i < n; i++ {
		number := from + uint64(i)
		if number > last {
			t.Fatalf("block %d has no number", number)
		}
		s, _ := c.Block(nonce + string([]byte{byte(number >> 24), byte(number >> 16), byte(number >> 8), byte(number)}))
		l = append(l, s)
	}
	return strings.Join(l, "")[:n]
}

// turning is a text that was turned elsewhere.
type turning struct {
	key, nonce string
	from       uint32
	text, want string
}

// known are that of SP 800-38A, those of RFC 3686, and others.
func known() []turning {
	const zero, zeroNonce = "00000000000000000000000000000000", "000000000000000000000000"
	const ones, onesNonce = "ffffffffffffffffffffffffffffffff", "ffffffffffffffffffffffff"
	return []turning{
		{"2b7e151628aed2a6abf7158809cf4f3c", "f0f1f2f3f4f5f6f7f8f9fafb", 0xfcfdfeff,
			"6bc1bee22e409f96e93d7e117393172aae2d8a571e03ac9c9eb76fac45af8e5130c81c46a35ce411e5fbc1191a0a52eff69f2445df4f9b17ad2b417be66c3710",
			"874d6191b620e3261bef6864990db6ce9806f66b7970fdff8617187bb9fffdff5ae4df3edbd5d35e5b4f09020db03eab1e031dda2fbe03d1792170a0f3009cee"},
		{"ae6852f8121067cc4bf7a5765577f39e", "000000300000000000000000", 1,
			"53696e676c6520626c6f636b206d7367", "e4095d4fb7a7b3792d6175a3261311b8"},
		{"7e24067817fae0d743d6ce1f32539163", "006cb6dbc0543b59da48d90b", 1,
			"000102030405060708090a0b0c0d0e0f101112131415161718191a1b1c1d1e1f",
			"5104a106168a72d9790d41ee8edad388eb2e1efc46da57c8fce630df9141be28"},
		{"7691be035e5020a8ac6e618529f9a0dc", "00e0017b27777f3f4a1786f0", 1,
			"000102030405060708090a0b0c0d0e0f101112131415161718191a1b1c1d1e1f20212223",
			"c1cf48a89f2ffdd9cf4652e9efdb72d74540a42bde6d7836d59a5ceaaef3105325b2072f"},
		{zero, zeroNonce, 0, "", ""},
		{zero, zeroNonce, 0, zero, "66e94bd4ef8a2c3b884cfa59ca342b2e"},
		{zero, zeroNonce, 1, zero, "58e2fccefa7e3061367f1d57a4e7455a"},
		{zero, zeroNonce, 2, zero, "0388dace60b6a392f328c2b971b2fe78"},
		{zero, zeroNonce, 255, zero, "f70ddef93ba62588242a0e67d0d645e0"},
		{zero, zeroNonce, 256, zero, "fb56cc09b680b1d07c5a52149e29f07c"},
		{zero, zeroNonce, 65535, zero, "90d4af3471b958d79c38285110dfb453"},
		{zero, zeroNonce, 65536, zero, "e1e223c4cf90cc5d195b370d65114622"},
		{zero, zeroNonce, 1<<31 - 1, zero, "6c5746dd45b5846c6096ca8e8ade7f25"},
		{zero, zeroNonce, 1 << 31, zero, "3423d8efc31fa2f4c365c77d8f3b5c63"},
		{zero, zeroNonce, last - 1, zero + zero, "2bdcf387424732cbef019d2bc2c0374328c16380c491088ca019f8a76853b1e8"},
		{zero, zeroNonce, last, zero, "28c16380c491088ca019f8a76853b1e8"},
		{ones, onesNonce, last, ones, "4340de834d7f30cf4dae8fade6c54686"},
		{ones, onesNonce, last - 2, zero + zero + zero,
			"3b15ecc73d392b00c38d88120d37d76843c2b6a4643274aef6116a32a5939e6cbcbf217cb280cf30b2517052193ab979"},
		{"030a11181f262d343b424950575e656c", "0a11181f262d343b42495057", 1,
			"11181f262d343b424950575e656c737a81888f969da4abb2b9c0c7ced5dce3eaf1",
			"d15e8b235de19b674608942ce00c1d24ed83d4d212a6340499c4f2d72b2b7bf4fa"},
	}
}

// asked is what a stream is asked for.
type asked struct {
	key, nonce string
	from       uint32
	n          int
}

// wrong are those that are answered as ErrArg: with one argument that may not be, then with others that would be too long beside it.
func wrong() []asked {
	key, nonce := aKey(), aNonce()
	var l []asked
	for _, n := range []int{0, 1, 4, 8, 12, 15, 17, 24, 28, 31, 32, 48, 256, 272} {
		l = append(l, asked{pattern(n, 0), nonce, 0, 16}, asked{pattern(n, 0), nonce, 0, 0})
		l = append(l, asked{pattern(n, 0), nonce, 0, api.MaxText + 1}, asked{pattern(n, 0), nonce, last, 17})
	}
	for _, n := range []int{0, 1, 4, 8, 11, 13, 15, 16, 24, 32, 256, 268} {
		l = append(l, asked{key, pattern(n, 0), 0, 16}, asked{key, pattern(n, 0), 0, 0})
		l = append(l, asked{key, pattern(n, 0), 0, api.MaxText + 1}, asked{key, pattern(n, 0), last, 17})
	}
	// The key and the nonce have 28 bytes in all here, too.
	for _, n := range []int{0, 16, api.MaxText + 1} {
		l = append(l, asked{nonce, key, 0, n}, asked{"", key + nonce, 0, n}, asked{key + nonce, "", 0, n})
	}
	return l
}

// tooLong are those that are answered as ErrLong, and of no text that a test could not hold.
func tooLong() []asked {
	key, nonce := aKey(), aNonce()
	return []asked{
		{key, nonce, 0, api.MaxText + 1},
		{key, nonce, 0, api.MaxText + 16},
		{key, nonce, 12345, api.MaxText + 1},
		{key, nonce, 0, 2 * api.MaxText},
		{key, nonce, last, 17},
		{key, nonce, last, 32},
		{key, nonce, last, api.MaxText},
		{key, nonce, last, api.MaxText + 1},
		{key, nonce, last - 1, 33},
		{key, nonce, last - 1, api.MaxText},
		{key, nonce, last - 15, 257},
		{key, nonce, last - 65534, api.MaxText},
		{key, nonce, last - 65534, api.MaxText - 15},
	}
}

// P5.1

func TestStreamKnown(t *testing.T) {
	for _, k := range known() {
		text, want := unhex(k.text), unhex(k.want)
		want, _ = word.Xor(text, want)
		if s, err := Stream(unhex(k.key), unhex(k.nonce), k.from, len(text)); s != want || err != api.OK {
			t.Errorf("P5.1 Stream(%s, %s, %d, %d): %x, %v, want %x", k.key, k.nonce, k.from, len(text), s, err, want)
		}
	}
}

func TestTurnKnown(t *testing.T) {
	for _, k := range known() {
		if s, err := Turn(unhex(k.key), unhex(k.nonce), k.from, unhex(k.text)); word.Hex(s) != k.want || err != api.OK {
			t.Errorf("P5.1 Turn(%s, %s, %d, %s): %x, %v, want %s", k.key, k.nonce, k.from, k.text, s, err, k.want)
		}
	}
}

// TestEachLength: streams and turned texts of each length up to some blocks are what the rule makes, and what was worked out elsewhere.
func TestEachLength(t *testing.T) {
	var turned []string
	for n := range 200 {
		from := uint32(n * n)
		want := byRule(t, aKey(), aNonce(), uint64(from), n)
		if s, err := Stream(aKey(), aNonce(), from, n); s != want || err != api.OK {
			t.Errorf("P5.1 Stream of %d bytes from %d: %x, %v, want %x", n, from, s, err, want)
		}
		want, _ = word.Xor(want, pattern(n, n))
		s, err := Turn(aKey(), aNonce(), from, pattern(n, n))
		if s != want || err != api.OK {
			t.Errorf("P5.1 Turn of %d bytes from %d: %x, %v, want %x", n, from, s, err, want)
		}
		turned = append(turned, s)
	}
	const want = "e0a7f1a128204e2b1c39cb2206300311ee30b1b25db55c6c47f0fa824adabf3b"
	if s := word.Hex(sha.Of(turned...)); s != want {
		t.Errorf("P5.1 Turn of 0 to 199 bytes: the sum %s, want %s", s, want)
	}
}

// TestLongStreams: the sums of long streams, MaxText's among them, were worked out elsewhere.
func TestLongStreams(t *testing.T) {
	for _, c := range []struct {
		from uint32
		n    int
		want string
	}{
		{0, api.MaxText, "433021ac460a75196a1c35ab3e507f601512aa9b9c8e5114dfd736348a0ab8b5"},
		{1, api.MaxText, "c57fb6fc11bbf12b6fbe4b81206f83531a27f4148f21e8c0485f6c258cccaf90"},
		{255, api.MaxText, "1380cbd7aef94a7900372d8e8b79c211a979375a61720a941f2077fc9e4dc502"},
		{last - 65535, api.MaxText, "6b25203d67a5820f6becf105104e688484564aa474fc276ec1d213c2a758e1ed"},
		{1<<31 - 1, api.MaxText, "1b9ec855ccdfcb90b81510db4d1795f6c25757be1632536ccfb46338a0c054be"},
		{0, api.MaxText - 1, "1944c0b5e644502a8d0a1c9c0cca07a1eed8501c256019ebaefb87df3fb50189"},
		{77, 12345, "4b0241df75cd20a813ce15f86ec82fd742f490d0cdd2e095db7d71caca28c961"},
	} {
		s, err := Stream(aKey(), aNonce(), c.from, c.n)
		if sum := word.Hex(sha.Of(s)); len(s) != c.n || sum != c.want || err != api.OK {
			t.Errorf("P5.1 Stream of %d bytes from %d: %d bytes, the sum %s, %v, want %s", c.n, c.from, len(s), sum, err, c.want)
		}
		turned, err := Turn(aKey(), aNonce(), c.from, zeros(c.n))
		if turned != s || err != api.OK {
			t.Errorf("P5.1 Turn of %d bytes 0 from %d: not the stream, %v", c.n, c.from, err)
		}
	}
}

// TestLastNumber: a stream may end with the block of the last number, and goes not beyond it.
func TestLastNumber(t *testing.T) {
	for blocks := 1; blocks <= 20; blocks++ {
		from := uint32(last - blocks + 1)
		want := byRule(t, aKey(), aNonce(), uint64(from), 16*blocks)
		for n := range 16*blocks + 1 {
			if s, err := Stream(aKey(), aNonce(), from, n); s != want[:n] || err != api.OK {
				t.Errorf("P5.1 Stream of %d bytes from %d: %x, %v, want %x", n, from, s, err, want[:n])
			}
		}
		for _, n := range []int{16*blocks + 1, 16*blocks + 15, 16*blocks + 16, 16*blocks + 17} {
			if s, err := Stream(aKey(), aNonce(), from, n); s != "" || err != api.ErrLong {
				t.Errorf("P5.1 Stream of %d bytes from %d: %x, %v, want ErrLong", n, from, s, err)
			}
		}
	}
	// The greatest stream that ends with the last number, and one block less room.
	if s, err := Stream(aKey(), aNonce(), last-65534, api.MaxText-16); len(s) != api.MaxText-16 || err != api.OK {
		t.Errorf("P5.1 Stream of MaxText - 16 bytes up to the last number: %d bytes, %v", len(s), err)
	}
}

// TestNothing: nothing is OK from each number on, the last one too.
func TestNothing(t *testing.T) {
	for _, from := range []uint32{0, 1, 1 << 31, last - 1, last} {
		if s, err := Stream(aKey(), aNonce(), from, 0); s != "" || err != api.OK {
			t.Errorf("P5.1 Stream of 0 bytes from %d: %x, %v", from, s, err)
		}
		if s, err := Turn(aKey(), aNonce(), from, ""); s != "" || err != api.OK {
			t.Errorf("P5.1 Turn of nothing from %d: %x, %v", from, s, err)
		}
	}
	// The chapter's example.
	if s, err := Turn(zeros(16), zeros(12), 0, ""); s != "" || err != api.OK {
		t.Errorf("P5.1 Turn of nothing, all 0: %x, %v", s, err)
	}
}

func TestWrong(t *testing.T) {
	for _, c := range wrong() {
		if s, err := Stream(c.key, c.nonce, c.from, c.n); s != "" || err != api.ErrArg {
			t.Errorf("P5.1 Stream(%d bytes, %d bytes, %d, %d): %x, %v, want ErrArg", len(c.key), len(c.nonce), c.from, c.n, s, err)
		}
		if s, err := Turn(c.key, c.nonce, c.from, zeros(c.n)); s != "" || err != api.ErrArg {
			t.Errorf("P5.1 Turn(%d bytes, %d bytes, %d, %d bytes): %x, %v, want ErrArg", len(c.key), len(c.nonce), c.from, c.n, s, err)
		}
	}
}

// TestBelowNothing: fewer than 0 bytes are wrong from each number on.
func TestBelowNothing(t *testing.T) {
	for _, n := range []int{-1, -15, -16, -17, -api.MaxText, math.MinInt32, math.MinInt, math.MinInt + 16} {
		for _, from := range []uint32{0, 1, last} {
			if s, err := Stream(aKey(), aNonce(), from, n); s != "" || err != api.ErrArg {
				t.Errorf("P5.1 Stream of %d bytes from %d: %x, %v, want ErrArg", n, from, s, err)
			}
		}
	}
}

func TestTooLong(t *testing.T) {
	for _, c := range tooLong() {
		if s, err := Stream(c.key, c.nonce, c.from, c.n); s != "" || err != api.ErrLong {
			t.Errorf("P5.1 Stream of %d bytes from %d: %d bytes, %v, want ErrLong", c.n, c.from, len(s), err)
		}
		if s, err := Turn(c.key, c.nonce, c.from, zeros(c.n)); s != "" || err != api.ErrLong {
			t.Errorf("P5.1 Turn of %d bytes from %d: %d bytes, %v, want ErrLong", c.n, c.from, len(s), err)
		}
	}
	for _, n := range []int{math.MaxInt32, math.MaxInt, math.MaxInt - 15, math.MaxInt / 16, math.MaxInt - api.MaxText} {
		for _, from := range []uint32{0, 1, last} {
			if s, err := Stream(aKey(), aNonce(), from, n); s != "" || err != api.ErrLong {
				t.Errorf("P5.1 Stream of %d bytes from %d: %d bytes, %v, want ErrLong", n, from, len(s), err)
			}
		}
	}
}

// TestAnswersHangOnAll: another key, nonce, or number answers another stream, and asked again each answers the same.
func TestAnswersHangOnAll(t *testing.T) {
	asked := []asked{{aKey(), aNonce(), 5, 64}, {aKey(), aNonce(), 6, 64}, {aKey(), aNonce(), 5 + 1<<24, 64}}
	for i := range 16 {
		key := []byte(aKey())
		key[i] ^= 1
		asked = append(asked, asked[0])
		asked[len(asked)-1].key = string(key)
	}
	for i := range 12 {
		nonce := []byte(aNonce())
		nonce[i] ^= 128
		asked = append(asked, asked[0])
		asked[len(asked)-1].nonce = string(nonce)
	}
	seen := map[string]int{}
	for i, c := range asked {
		s, _ := Stream(c.key, c.nonce, c.from, c.n)
		if was, is := seen[s]; is {
			t.Errorf("P5.1 Stream %d: that of %d", i, was)
		}
		seen[s] = i
	}
	for i, c := range asked {
		s, _ := Stream(c.key, c.nonce, c.from, c.n)
		if was, is := seen[s]; !is || was != i {
			t.Errorf("P5.1 Stream %d asked again: another one", i)
		}
	}
}

// P5.2

func TestTurnedTwice(t *testing.T) {
	texts := []string{"", "a", "a secret", zeros(16), strings.Repeat("\xff", 16), pattern(17, 4), pattern(1000, 0), pattern(api.MaxText, 0)}
	for _, s := range texts {
		for _, from := range []uint32{0, 1, 255, 1<<31 - 1, last - 65535} {
			there, err := Turn(aKey(), aNonce(), from, s)
			if len(there) != len(s) || err != api.OK {
				t.Fatalf("P5.2 Turn of %d bytes from %d: %d bytes, %v", len(s), from, len(there), err)
			}
			if len(s) >= 16 && there == s {
				t.Errorf("P5.2 Turn of %d bytes from %d: the text itself", len(s), from)
			}
			if back, err := Turn(aKey(), aNonce(), from, there); back != s || err != api.OK {
				t.Errorf("P5.2 Turn of %d bytes from %d, twice: another text, %v", len(s), from, err)
			}
		}
	}
}

// TestPieces: a text that is cut at blocks' ends is, turned piece by piece, what it is when turned whole.
func TestPieces(t *testing.T) {
	s := pattern(16*40+5, 3)
	for _, from := range []uint32{0, 200, 65530, 1<<31 - 7, last - 40} {
		whole, err := Turn(aKey(), aNonce(), from, s)
		if err != api.OK {
			t.Fatalf("P5.2 Turn of %d bytes from %d: %v", len(s), from, err)
		}
		for cut := 0; 16*cut <= len(s); cut++ {
			a, _ := Turn(aKey(), aNonce(), from, s[:16*cut])
			b, err := Turn(aKey(), aNonce(), from+uint32(cut), s[16*cut:])
			if a+b != whole || err != api.OK {
				t.Errorf("P5.2 Turn from %d of two pieces, cut behind block %d: another text, %v", from, cut, err)
			}
		}
		var all strings.Builder
		for i := 0; 16*i < len(s); i++ {
			piece, _ := Turn(aKey(), aNonce(), from+uint32(i), s[16*i:min(16*i+16, len(s))])
			all.WriteString(piece)
		}
		if all.String() != whole {
			t.Errorf("P5.2 Turn from %d block by block: another text", from)
		}
	}
}

// TestStreamPieces: a longer stream begins with each shorter one, and from a later number on it is the rest.
func TestStreamPieces(t *testing.T) {
	whole, err := Stream(aKey(), aNonce(), 250, 320)
	if err != api.OK {
		t.Fatalf("P5.2 Stream of 320 bytes: %v", err)
	}
	for n := range len(whole) + 1 {
		if s, _ := Stream(aKey(), aNonce(), 250, n); s != whole[:n] {
			t.Errorf("P5.2 Stream of %d bytes: not the first ones of a longer one", n)
		}
	}
	for i := range 20 {
		if s, _ := Stream(aKey(), aNonce(), 250+uint32(i), len(whole)-16*i); s != whole[16*i:] {
			t.Errorf("P5.2 Stream from %d blocks later on: not the rest", i)
		}
	}
}
