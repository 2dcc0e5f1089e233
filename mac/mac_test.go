package mac

import (
	"math"
	"slices"
	"strings"
	"testing"

	"scrinium/sha"
	"scrinium/word"
)

// pattern is n bytes that repeat only after 256.
func pattern(n int) string {
	b := make([]byte, n)
	for i := range b {
		b[i] = byte(i*7 + 3)
	}
	return string(b)
}

// rising is n bytes, each one more than the one ahead of it.
func rising(from byte, n int) string {
	b := make([]byte, n)
	for i := range b {
		b[i] = from + byte(i)
	}
	return string(b)
}

// unhex is the bytes of a hex text that stands in a test.
func unhex(s string) string {
	b, is := word.Unhex(s)
	if !is {
		panic("no hex text: " + s)
	}
	return b
}

// byRule is the tag by the chapter's words, made by no function of this package.
func byRule(key, text string) string {
	if len(key) > 64 {
		key = sha.Of(key)
	}
	inner, outer := make([]byte, 64), make([]byte, 64)
	copy(inner, key)
	copy(outer, key)
	for i := range 64 {
		inner[i] ^= 54
		outer[i] ^= 92
	}
	return sha.Of(string(outer) + sha.Of(string(inner)+text))
}

// known are tags that were worked out elsewhere; the first seven are those of RFC 4231.
func known() []struct{ key, text, tag string } {
	return []struct{ key, text, tag string }{
		{strings.Repeat("\x0b", 20), "Hi There", "b0344c61d8db38535ca8afceaf0bf12b881dc200c9833da726e9376c2e32cff7"},
		{"Jefe", "what do ya want for nothing?", "5bdcc146bf60754e6a042426089575c75a003f089d2739839dec58b964ec3843"},
		{strings.Repeat("\xaa", 20), strings.Repeat("\xdd", 50), "773ea91e36800e46854db8ebd09181a72959098b3ef8c122d9635514ced565fe"},
		{rising(1, 25), strings.Repeat("\xcd", 50), "82558a389a443c0ea4cc819899f2083a85f0faa3e578f8077a2e3ff46729665b"},
		{strings.Repeat("\x0c", 20), "Test With Truncation", "a3b6167473100ee06e0c796c2955552bfa6f7c0a6a8aef8b93f860aab0cd20c5"},
		{strings.Repeat("\xaa", 131), "Test Using Larger Than Block-Size Key - Hash Key First", "60e431591ee0b67f0d8a26aacbf5b77f8e0bc6213728c5140546040f0ee37f54"},
		{strings.Repeat("\xaa", 131), "This is a test using a larger than block-size key and a larger than block-size data. The key needs to be hashed before being used by the HMAC algorithm.", "9b09ffa71b942fcb27635fbcd5b0e944bfdc63644f0713938a7f51535c3a35e2"},
		{"", "", "b613679a0814d9ec772f95d778c35fc5ff1697c493715653c6c712144292c5ad"},
		{"", pattern(100), "b14f4be1e32463efe920092a7af59b81935aad0ae63a33559ded43002455c7d5"},
		{pattern(1), "", "be8d44d01aa938627809668b7364a21ed8e9fc8cffa64d18846d126789d4cef8"},
		{pattern(32), pattern(100), "e52fd1f8716828deba663e39d36b59c94b1dbbcfc400b7eda5fdb44418639609"},
		{pattern(63), pattern(100), "b0c140d5d17589c6d25f7d70d1f5432484d99f8b7842ff00e6ecbe2473ccd2a0"},
		{pattern(64), "", "58c7e63111455c2bf96038a7f89d0b8003da9a940571640f70d14f4f3f983fc1"},
		{pattern(64), pattern(100), "5171e7824a6389c177d4e27743ed46b10ba63cc6568041b4066c25ad97987709"},
		{pattern(65), "", "34bb3ae87adcec2d42a585be6634ffec56e8cf0caac667a4e398ee1e46015c15"},
		{pattern(65), pattern(100), "5b9a7fa1700a40539781187447f46be9dfe14a0a096167eef745e29c508350c5"},
		{pattern(128), pattern(100), "84b4d6405d477ad0d67892567f43318125a6ba8c11668ff75d48410654d901fb"},
		{pattern(200), pattern(100), "1a3f5e76f965fdb89dd2aa344272ce23880b908f915fa9c3ac7e149fd4dd8747"},
		{"Jefe", "", "923598ca6d64af2a5dba79dcd021a8a0fe5c5f557519adaaf0ad532d4506dd30"},
		{"Jefe", pattern(55), "e56ef7ba2c502a8a159b8cc71e779fc1be587b9eb8680ec898b7e4a1ce8195f4"},
		{"Jefe", pattern(56), "d6eb21c731b4f46d194b66963f56a15f74aec01c9b378b8cd7ce1542164b7356"},
		{"Jefe", pattern(64), "a04818de35edb345b58c797e7f90fa92be4389ad3a606a23e21e43601881138f"},
		{"Jefe", pattern(1000), "9de210090708af95dc6033fba8db7bb4753791356f24ad0e1a82bb7923dad01d"},
	}
}

// P3.1

func TestOf(t *testing.T) {
	for _, c := range known() {
		if s := word.Hex(Of(c.key, c.text)); s != c.tag {
			t.Errorf("P3.1 Of(%d bytes, %d bytes): %s, want %s", len(c.key), len(c.text), s, c.tag)
		}
	}
}

// TestOfEachLength: with keys of each length up to some blocks, the tags are what was worked out elsewhere, and what the rule makes.
func TestOfEachLength(t *testing.T) {
	text := pattern(50)
	var tags []string
	for n := range 200 {
		tag := Of(pattern(n), text)
		if tag != byRule(pattern(n), text) {
			t.Errorf("P3.1 Of with a key of %d bytes: %x", n, tag)
		}
		tags = append(tags, tag)
	}
	const want = "0f56377dfaa86b287a6d623b88213a9c6a4870b256da7348ca8ce865bbc6be53"
	if s := word.Hex(sha.Of(tags...)); s != want {
		t.Errorf("P3.1 Of with keys of 0 to 199 bytes: %s, want %s", s, want)
	}
}

// TestBlockKey: bytes 0 behind a key change nothing up to 64 bytes; from 65 on its sum is the key.
func TestBlockKey(t *testing.T) {
	for n := range 65 {
		key := pattern(n)
		if Of(key, "text") != Of(key+strings.Repeat("\x00", 64-n), "text") {
			t.Errorf("P3.1 Of with a key of %d bytes, and bytes 0 behind: another tag", n)
		}
	}
	for _, n := range []int{65, 66, 100, 128, 1000} {
		if Of(pattern(n), "text") != Of(sha.Of(pattern(n)), "text") {
			t.Errorf("P3.1 Of with a key of %d bytes: not that of its sum", n)
		}
	}
	if Of(pattern(64), "text") == Of(sha.Of(pattern(64)), "text") {
		t.Error("P3.1 Of with a key of 64 bytes: that of its sum")
	}
	if Of(pattern(64)+"\x00", "text") == Of(pattern(64), "text") {
		t.Error("P3.1 Of with a key of 65 bytes: that of the first 64")
	}
}

func TestOfNothing(t *testing.T) {
	for _, key := range []string{"", "k", pattern(64), pattern(65)} {
		want := byRule(key, "")
		for _, l := range [][]string{nil, {}, {""}, {"", "", ""}} {
			if Of(key, l...) != want {
				t.Errorf("P3.1 Of with a key of %d bytes, of %d empty texts: another tag", len(key), len(l))
			}
		}
	}
}

func TestCut(t *testing.T) {
	for _, c := range known() {
		whole := unhex(c.tag)
		for n := 1; n <= 32; n++ {
			if s, is := Cut(c.key, n, c.text); s != whole[:n] || !is {
				t.Errorf("P3.1 Cut(%d bytes, %d, %d bytes): %x, %v", len(c.key), n, len(c.text), s, is)
			}
		}
	}
	if s, is := Cut("key", 32); s != Of("key") || !is {
		t.Errorf("P3.1 Cut of no text: %x, %v", s, is)
	}
}

func TestCutWrong(t *testing.T) {
	for _, n := range []int{0, -1, -16, -32, 33, 34, 64, 256, 256 + 16, 1 << 32, 1<<32 + 16, math.MaxInt, math.MinInt} {
		for _, l := range [][]string{nil, {"text"}} {
			if s, is := Cut("key", n, l...); s != "" || is {
				t.Errorf("P3.1 Cut to %d bytes: %x, %v", n, s, is)
			}
		}
	}
}

func TestCheck(t *testing.T) {
	for _, c := range known() {
		whole := unhex(c.tag)
		for n := range 33 {
			if is := Check(c.key, whole[:n], c.text); is != (n >= 16) {
				t.Errorf("P3.1 Check(%d bytes, the first %d, %d bytes): %v", len(c.key), n, len(c.text), is)
			}
		}
		for _, more := range []string{"\x00", whole[:1], whole} {
			if Check(c.key, whole+more, c.text) {
				t.Errorf("P3.1 Check of a tag with %d bytes behind", len(more))
			}
		}
	}
	if !Check("key", Of("key")) || !Check("", Of("")) {
		t.Error("P3.1 Check of no text")
	}
}

// TestCheckOther: a tag of another key, of another text, or another piece of the right tag is none.
func TestCheckOther(t *testing.T) {
	tag := Of("key", "a", "b")
	for _, c := range []struct {
		key, tag string
		l        []string
	}{
		{"kez", tag, []string{"a", "b"}},
		{"", tag, []string{"a", "b"}},
		{"key", tag, []string{"a"}},
		{"key", tag, []string{"b", "a"}},
		{"key", tag, []string{"a", "b", "\x00"}},
		{"key", tag, nil},
		{"key", tag[1:], []string{"a", "b"}},
		{"key", tag[16:], []string{"a", "b"}},
		{"key", tag[8:24], []string{"a", "b"}},
		{"key", tag[:15] + "\x00", []string{"a", "b"}},
		{"key", "", []string{"a", "b"}},
		{"key", "", nil},
		{"key", strings.Repeat("\x00", 16), []string{"a", "b"}},
		{"key", strings.Repeat("\x00", 32), []string{"a", "b"}},
		{"key", word.Hex(tag), []string{"a", "b"}},
		{"key", word.Hex(tag)[:32], []string{"a", "b"}},
	} {
		if Check(c.key, c.tag, c.l...) {
			t.Errorf("P3.1 Check(%q, %x, %q)", c.key, c.tag, c.l)
		}
	}
	if !Check("key", tag, "a", "b") {
		t.Error("P3.1 Check of the right one")
	}
}

func TestListNotChanged(t *testing.T) {
	// There is room behind the list, where a row that were made in place would be seen.
	room := []string{"a", pattern(70), "", "behind", "more"}
	was := slices.Clone(room)
	l := room[:3]
	tag := Of("key", l...)
	Cut("key", 20, l...)
	Check("key", tag, l...)
	if !slices.Equal(room, was) {
		t.Errorf("P3.1 a list of texts is changed: %q", room)
	}
}

// P3.2

// TestDeriveKnown: bytes that were worked out elsewhere; the first three are those of RFC 5869, behind its first step.
func TestDeriveKnown(t *testing.T) {
	for _, c := range []struct{ key, label, want string }{
		{unhex("077709362c2e32df0ddc3f0dc47bba6390b6c73bb50f9c3122ec844ad7c2b3e5"), unhex("f0f1f2f3f4f5f6f7f8f9"), "3cb25f25faacd57a90434f64d0362f2a2d2d0a90cf1a5a4c5db02d56ecc4c5bf34007208d5b887185865"},
		{unhex("06a6b88c5853361a06104c9ceb35b45cef760014904671014a193f40c15fc244"), rising(0xb0, 80), "b11e398dc80327a1c8e7f78c596a49344f012eda2d4efad8a050cc4c19afa97c59045a99cac7827271cb41c65e590e09da3275600c2f09b8367793a9aca3db71cc30c58179ec3e87c14c01d5c1f3434f1d87"},
		{unhex("19ef24a32c717b167f33a91d6f648bdf96596776afdb6377ac434c1c293ccb04"), "", "8da4e775a563c18f715f802a063c5a31b8a11f5c5ee1879ec3454e5f3c738d2d9d201395faa4b61a96c8"},
		{"key", "label", "f3"},
		{"", "", "3d7afb663124ecbf2c953f863d4fc8796eeb2d372b64aad58697ec5264649cdb8eb20d0e5acf7134"},
		{pattern(64), pattern(70), "f5e7b28f19af89fc367d75007edab95454099c64801a24130a9ea8adc12d8de4dd0734c0c4157e5a17d9491ac4ef54d3dfd10a2ce8b9939b9c5faaae1a1dd5ad3a"},
		{pattern(65), pattern(70), "d153467f415d605466dfc9633b12cede3924fdc40e41f9079691a7378f27b6c6f832308786727b19ad8a2e6e0762731c1620e44e23c6ba1b7f7207b2ffbaf77b60"},
	} {
		if s, is := Derive(c.key, c.label, len(c.want)/2); word.Hex(s) != c.want || !is {
			t.Errorf("P3.2 Derive(%x, %x): %x, %v, want %s", c.key, c.label, s, is, c.want)
		}
	}
}

// TestDeriveAll: at the limit, all bytes that there are, the last ones by the byte 255.
func TestDeriveAll(t *testing.T) {
	const (
		sum  = "b8e57dbb4f5301ad327a4e48804071d3959ea9baf1f05797093ad7cbbc413fa4"
		last = "484aadd0f339368cd91f9a12a5fd7caa6b6a2abd9af3db2160a73dc64c1fdd83"
	)
	s, is := Derive("key", "label", 8160)
	if len(s) != 8160 || !is {
		t.Fatalf("P3.2 Derive of 8,160 bytes: %d, %v", len(s), is)
	}
	if word.Hex(sha.Of(s)) != sum || word.Hex(s[8128:]) != last {
		t.Errorf("P3.2 Derive of 8,160 bytes: sum %x, at the end %x", sha.Of(s), s[8128:])
	}
}

// TestDeriveRule: each tag of the row is what the chapter's rule makes of the one ahead of it.
func TestDeriveRule(t *testing.T) {
	for _, c := range []struct{ key, label string }{
		{"key", "label"}, {"", ""}, {"", "label"}, {"key", ""}, {pattern(32), "\x01"}, {pattern(100), pattern(200)},
	} {
		s, is := Derive(c.key, c.label, 8160)
		if !is {
			t.Fatalf("P3.2 Derive(%x, %x) of 8,160 bytes", c.key, c.label)
		}
		last := ""
		for i := 1; i <= 255; i++ {
			last = byRule(c.key, last+c.label+string([]byte{byte(i)}))
			if s[32*(i-1):32*i] != last {
				t.Fatalf("P3.2 Derive(%x, %x): tag %d is %x, want %x", c.key, c.label, i, s[32*(i-1):32*i], last)
			}
		}
	}
}

func TestDeriveWrong(t *testing.T) {
	for _, n := range []int{0, -1, -32, -8160, 8161, 8192, 1 << 16, 1<<32 + 1, math.MaxInt, math.MinInt} {
		for _, label := range []string{"", "label"} {
			if s, is := Derive("key", label, n); s != "" || is {
				t.Errorf("P3.2 Derive of %d bytes: %d bytes, %v", n, len(s), is)
			}
		}
	}
}

// TestDeriveApart: another key, or another label, has other bytes.
func TestDeriveApart(t *testing.T) {
	seen := map[string]string{}
	for _, key := range []string{"", "a", "b", "ab"} {
		for _, label := range []string{"", "a", "b", "ab"} {
			s, _ := Derive(key, label, 32)
			if of, is := seen[s]; is {
				t.Errorf("P3.2 Derive(%q, %q): that of %s", key, label, of)
			}
			seen[s] = key + ", " + label
		}
	}
}

// P3.3

// TestTextsCut: wherever the texts are cut, they have one tag.
func TestTextsCut(t *testing.T) {
	for _, n := range []int{1, 55, 56, 63, 64, 65, 128, 150} {
		s := pattern(n)
		want := Of("key", s)
		for at := range n + 1 {
			if Of("key", s[:at], s[at:]) != want || Of("key", "", s[:at], "", s[at:], "") != want {
				t.Errorf("P3.3 Of(%d bytes) cut at %d: another tag", n, at)
			}
			if c, is := Cut("key", 20, s[:at], s[at:]); c != want[:20] || !is {
				t.Errorf("P3.3 Cut of %d bytes cut at %d: another tag", n, at)
			}
			if !Check("key", want, s[:at], s[at:]) {
				t.Errorf("P3.3 Check of %d bytes cut at %d", n, at)
			}
		}
		if Of("key", strings.Split(s, "")...) != want {
			t.Errorf("P3.3 Of(%d bytes) in small pieces: another tag", n)
		}
	}
}

// TestKeyIsNoText: what stands in the key does not go over into the texts.
func TestKeyIsNoText(t *testing.T) {
	if Of("ab", "c") == Of("a", "bc") || Of("a") == Of("", "a") {
		t.Error("P3.3 a piece of the key is taken as a text")
	}
}

func TestDeriveBegins(t *testing.T) {
	whole, _ := Derive("key", "label", 8160)
	for n := 1; n <= 8160; n++ {
		if n > 200 && n < 8000 && n%32 > 1 {
			continue
		}
		if s, is := Derive("key", "label", n); s != whole[:n] || !is {
			t.Errorf("P3.3 Derive of %d bytes: not the first ones of all, %v", n, is)
		}
	}
}

// TestCheckEachBit: a tag in which one bit, wherever it stands, is another one is told.
func TestCheckEachBit(t *testing.T) {
	tag := Of("key", "text")
	for n := 16; n <= 32; n++ {
		for i := range 8 * n {
			b := []byte(tag[:n])
			b[i/8] ^= 1 << (i % 8)
			if Check("key", string(b), "text") {
				t.Errorf("P3.3 Check of %d bytes with bit %d turned about", n, i)
			}
		}
	}
}

// TestTextEachBit: a text, or a key, in which one bit is another one has another tag.
func TestTextEachBit(t *testing.T) {
	key, text := pattern(40), pattern(100)
	tag := Of(key, text)
	for i := range 8 * len(text) {
		b := []byte(text)
		b[i/8] ^= 1 << (i % 8)
		if Check(key, tag[:16], string(b)) {
			t.Errorf("P3.3 Check with bit %d of the text turned about", i)
		}
	}
	for i := range 8 * len(key) {
		b := []byte(key)
		b[i/8] ^= 1 << (i % 8)
		if Check(string(b), tag[:16], text) {
			t.Errorf("P3.3 Check with bit %d of the key turned about", i)
		}
	}
}
