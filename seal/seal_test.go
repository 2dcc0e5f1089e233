package seal

import (
	"math"
	"strconv"
	"strings"
	"testing"

	"scrinium/api"
	"scrinium/ctr"
	"scrinium/keyring"
	"scrinium/mac"
	"scrinium/sha"
	"scrinium/word"
)

const (
	greatest = math.MaxUint32 // epoch
	nothing  = 49             // bytes of an envelope of nothing
	most     = 1 << 20        // bytes of a path, and of a text
)

// pattern is n bytes that repeat only after 256, from one of them on.
func pattern(n, from int) string {
	b := make([]byte, n)
	for i := range b {
		b[i] = byte((i+from)*7 + 3)
	}
	return string(b)
}

// aKey is the i-th of 256 keys that are unlike.
func aKey(i int) string { return pattern(32, 41*i) }

// aNonce is the i-th of 256 nonces that are unlike.
func aNonce(i int) string { return pattern(12, i) }

// zeros are n bytes 0, ones n bytes 255.
func zeros(n int) string { return strings.Repeat("\x00", n) }
func ones(n int) string  { return strings.Repeat("\xff", n) }

// with is s, the byte at a place either or another one.
func with(s string, at int, by byte) string {
	b := []byte(s)
	b[at] ^= by
	return string(b)
}

// number is the last n bytes of a number, the highest first.
func number(x uint64, n int) string {
	b := make([]byte, n)
	for i := range b {
		b[i] = byte(x >> (8 * (n - 1 - i)))
	}
	return string(b)
}

// row is an epoch, and its key.
type row struct {
	epoch uint32
	key   string
}

// ringOf is a ring of these rows, which rise.
func ringOf(t *testing.T, l ...row) *keyring.Ring {
	t.Helper()
	s := string([]byte{byte(len(l))})
	for _, x := range l {
		s += number(uint64(x.epoch), 4) + x.key
	}
	r, err := keyring.Read(s)
	if err != api.OK {
		t.Fatalf("keyring.Read(%x): %v", s, err)
	}
	return r
}

// rowsOf are the epochs, which have the keys of their numbers, modulo 256.
func rowsOf(epochs ...uint32) []row {
	var l []row
	for _, epoch := range epochs {
		l = append(l, row{epoch, aKey(int(epoch % 256))})
	}
	return l
}

// rotated is a ring of the epochs from 1 to n, by New and Rotate.
func rotated(t *testing.T, n int) *keyring.Ring {
	t.Helper()
	r, err := keyring.New(aKey(1))
	if err != api.OK {
		t.Fatalf("keyring.New: %v", err)
	}
	for i := 2; i <= n; i++ {
		rotate(t, r, i)
	}
	return r
}

// rotate lets the i-th key be that of the epoch i.
func rotate(t *testing.T, r *keyring.Ring, i int) {
	t.Helper()
	if epoch, err := r.Rotate(aKey(i)); epoch != uint32(i) || err != api.OK {
		t.Fatalf("Rotate: %d, %v, want %d", epoch, err, i)
	}
}

// retire lets an epoch's key be no more.
func retire(t *testing.T, r *keyring.Ring, epoch uint32) {
	t.Helper()
	if err := r.Retire(epoch); err != api.OK {
		t.Fatalf("Retire(%d): %v", epoch, err)
	}
}

// rings are those whose newest epoch has a key, as each of them came to be.
func rings(t *testing.T, epoch uint32, key string) map[string]*keyring.Ring {
	t.Helper()
	alone := ringOf(t, row{epoch, key})
	l := map[string]*keyring.Ring{"alone": alone, "a copy": alone.Copy()}
	if epoch > 2 {
		l["behind others"] = ringOf(t, row{1, aKey(91)}, row{epoch - 1, aKey(92)}, row{epoch, key})
		r := ringOf(t, row{1, aKey(91)}, row{epoch - 1, aKey(92)})
		if n, err := r.Rotate(key); n != epoch || err != api.OK {
			t.Fatalf("Rotate: %d, %v, want %d", n, err, epoch)
		}
		l["rotated"] = r
		l["rotated and retired"] = r.Copy()
		retire(t, l["rotated and retired"], 1)
	}
	return l
}

// closing is what is closed.
type closing struct {
	key     string
	epoch   uint32
	path    string
	version uint64
	nonce   string
	text    string
}

// byRule is the envelope by the chapter's words, made by no function of this package.
func (c closing) byRule() string {
	cipherKey, _ := mac.Derive(c.key, "cipher", 16)
	tagKey, _ := mac.Derive(c.key, "tag", 32)
	turned, err := ctr.Turn(cipherKey, c.nonce, 0, c.text)
	if err != api.OK {
		panic(err)
	}
	s := "\x01" + number(uint64(c.epoch), 4) + c.nonce + turned
	return s + mac.Of(tagKey, number(uint64(len(c.path)), 4)+c.path+number(c.version, 8)+s)
}

// ring is one of that epoch alone.
func (c closing) ring(t *testing.T) *keyring.Ring {
	t.Helper()
	return ringOf(t, row{c.epoch, c.key})
}

// closed is what Close answers of it by a ring.
func (c closing) closed(t *testing.T, about string, r *keyring.Ring) string {
	t.Helper()
	s, err := Close(r, c.path, c.version, c.nonce, c.text)
	if err != api.OK {
		t.Fatalf("%s: Close(%.40x, %d, %x, %.40x): %v", about, c.path, c.version, c.nonce, c.text, err)
	}
	return s
}

// aClosing is an ordinary one.
func aClosing() closing {
	return closing{aKey(1), 1, "app/db/password", 3, aNonce(5), "correct horse battery staple"}
}

// closes says where Close answers another envelope.
func closes(t *testing.T, about string, r *keyring.Ring, c closing, want string) {
	t.Helper()
	if got := c.closed(t, about, r); got != want {
		t.Errorf("%s: Close(%.40x, %d, %x, %.40x): %.80x, want %.80x", about, c.path, c.version, c.nonce, c.text, got, want)
	}
}

// closesNot says where Close answers something else than an error alone.
func closesNot(t *testing.T, about string, r *keyring.Ring, c closing, want api.Errno) {
	t.Helper()
	if s, err := Close(r, c.path, c.version, c.nonce, c.text); s != "" || err != want {
		t.Errorf("%s: Close of a path of %d, a nonce of %d, a text of %d bytes: %.40x, %v, want %v", about, len(c.path), len(c.nonce), len(c.text), s, err, want)
	}
}

// opens says where Open answers another text.
func opens(t *testing.T, about string, r *keyring.Ring, c closing, s string) {
	t.Helper()
	if got, err := Open(r, c.path, c.version, s); got != c.text || err != api.OK {
		t.Errorf("%s: Open(%.40x, %d, %.80x): %.40x, %v, want %.40x", about, c.path, c.version, s, got, err, c.text)
	}
}

// opensNot says where Open, or Again, answers something else than an error alone.
func opensNot(t *testing.T, about string, r *keyring.Ring, path string, version uint64, s string, want api.Errno) {
	t.Helper()
	if got, err := Open(r, path, version, s); got != "" || err != want {
		t.Errorf("%s: Open(%.40x, %d, %.80x): %.40x, %v, want %v", about, path, version, s, got, err, want)
	}
	againsNot(t, about, r, path, version, aNonce(9), s, want)
}

// agains says where Again answers another envelope.
func agains(t *testing.T, about string, r *keyring.Ring, c closing, s, want string) {
	t.Helper()
	if got, err := Again(r, c.path, c.version, c.nonce, s); got != want || err != api.OK {
		t.Errorf("%s: Again(%.40x, %d, %x, %.80x): %.80x, %v, want %.80x", about, c.path, c.version, c.nonce, s, got, err, want)
	}
}

// againsNot says where Again answers something else than an error alone.
func againsNot(t *testing.T, about string, r *keyring.Ring, path string, version uint64, nonce, s string, want api.Errno) {
	t.Helper()
	if got, err := Again(r, path, version, nonce, s); got != "" || err != want {
		t.Errorf("%s: Again(%.40x, %d, %x, %.80x): %.40x, %v, want %v", about, path, version, nonce, s, got, err, want)
	}
}

// isOf says where Epoch answers another one.
func isOf(t *testing.T, about, s string, want uint32) {
	t.Helper()
	if got, err := Epoch(s); got != want || err != api.OK {
		t.Errorf("%s: Epoch(%.40x) of %d bytes: %d, %v, want %d", about, s, len(s), got, err, want)
	}
}

// isOfNone says where what is no envelope has an epoch, or opens.
func isOfNone(t *testing.T, about, s string) {
	t.Helper()
	if got, err := Epoch(s); got != 0 || err != api.ErrForm {
		t.Errorf("%s: Epoch(%.40x) of %d bytes: %d, %v, want 0, ErrForm", about, s, len(s), got, err)
	}
	opensNot(t, about, rotated(t, 1), "a", 1, s, api.ErrForm)
}

// P14.1

// known are envelopes that were worked out elsewhere.
func known() []struct {
	closing
	want string
} {
	return []struct {
		closing
		want string
	}{
		{closing{zeros(32), 1, "", 0, zeros(12), ""},
			"010000000100000000000000000000000065bdaeaad60ab3f831ab00cd7a67c803260e1f22305854d8be5977d0e920a4e1"},
		{closing{zeros(32), 1, "a", 1, zeros(12), ""},
			"0100000001000000000000000000000000903868280ca2864f2d1b5786fa4f72013fcb1005c50937dfe70279316366d528"},
		{closing{zeros(32), 1, "a", 1, zeros(12), "\x00"},
			"01000000010000000000000000000000002ff01b98c3e4dbc41d9177814644a0f84419019d615c771598e277d8114c041892"},
		{closing{zeros(32), 1, "a", 1, zeros(12), zeros(32)},
			"01000000010000000000000000000000002fd0cb43727ee723add643e06731af8067a548dbaec945a03445cdb1574be127" +
				"477ed135ef0bd161d0e1d2e66d81e0da6a9cdffed99aa0ceb2a2922dd202d1bf"},
		{closing{ones(32), 1, "\xff", math.MaxUint64, ones(12), ones(17)},
			"0100000001fffffffffffffffffffffffffb48b5daeed667f3bdfef98d14698f3a968be0dd8e43c1855770b8e88d8707b7e53837c140034c6d3194f690d1cc39054b"},
		{closing{aKey(1), 1, "barrier", 3, aNonce(1), "text"},
			"01000000010a11181f262d343b42495057884067037a4ed7ac2d8b533a9cfe6b39c053e4d75899dab8c863d26976dfa5bc9fab2406"},
		{closing{aKey(1), greatest, "barrier", 3, aNonce(1), "text"},
			"01ffffffff0a11181f262d343b42495057884067038b93b196f87ba647af2a6158a9cc8969aea5e9d5cbf5e275506cb10fd8a06357"},
		{closing{aKey(2), 256, "app/db/password", 258, aNonce(2), "correct horse battery staple"},
			"010000010011181f262d343b424950575e1348ea706281680904f59654b1a99863129aecd54208825b21aad20f" +
				"50c303411e18b6b5ec1ebcf666cfd6cd4b392769871e85832161206a045e2138"},
		{closing{aKey(2), 1 << 24, "app/db/password", 1 << 32, aNonce(2), "correct horse battery staple"},
			"010100000011181f262d343b424950575e1348ea706281680904f59654b1a99863129aecd54208825b21aad20f" +
				"db78e29e637bbdf007878ea2f47f008532c57a1dfa8ca79c78d2bebfcc5b6515"},
		{closing{aKey(3), 0x01020304, pattern(300, 0), 0x0102030405060708, aNonce(3), pattern(16, 5)},
			"0101020304181f262d343b424950575e654ddee9a327fc64eefbaf5e21b113037fd39ea8407a6f5aa1c2b56620ddbf1397a922d5ff9ad1f4c03cca5bdcd60786ae"},
		{closing{aKey(3), 0x01020304, pattern(300, 0), 0x0807060504030201, aNonce(4), pattern(15, 5)},
			"01010203041f262d343b424950575e656c27706981997b9dc5d4650b45d6b914628d82f4744a3fd6e491e6da3c4158c90a71c50306d12ed29047256b450c0148"},
		{closing{"abcdefghijklmnopqrstuvwxyz012345", 7, "x\x00y", 1 << 63, "twelve bytes", "\x00"},
			"01000000077477656c7665206279746573b09586352c74d375a1af955b7b8872312f81651878c60b82d6dbb6d3a38ec72c7a"},
	}
}

// TestKnown: whichever way a ring of the epoch came to be, the envelope is what was worked out elsewhere, and opens.
func TestKnown(t *testing.T) {
	for _, c := range known() {
		want, is := word.Unhex(c.want)
		if !is || want != c.byRule() {
			t.Fatalf("the test's own rule: %x, want %s", c.byRule(), c.want)
		}
		isOf(t, "P14.2 known", want, c.epoch)
		for about, r := range rings(t, c.epoch, c.key) {
			closes(t, "P14.1 known, "+about, r, c.closing, want)
			opens(t, "P14.2 known, "+about, r, c.closing, want)
			agains(t, "P14.2 known, "+about, r, c.closing, want, want)
		}
	}
}

// TestMany: 300 envelopes of all kinds have, one behind the other, the sum that was worked out elsewhere.
func TestMany(t *testing.T) {
	var all []string
	for i := range 300 {
		c := closing{aKey(i % 256), uint32(1 + i*14351), pattern(i*7%131, i), uint64(i) * 0x0123456789abcdef, aNonce(i), pattern(i, 2*i)}
		s := c.closed(t, "P14.1 many", c.ring(t))
		opens(t, "P14.2 many", c.ring(t), c, s)
		all = append(all, s)
	}
	const want = "8f6ac4348dcd3debe2cc4c6b0d899e3178e6d3f27a50b54aa5d1a5b2b69667fe"
	if got := word.Hex(sha.Of(all...)); got != want {
		t.Errorf("P14.1 many: the sum %s, want %s", got, want)
	}
}

// TestMost: a path and a text of MaxText bytes may be; their envelopes' sums were worked out elsewhere.
func TestMost(t *testing.T) {
	for _, x := range []struct {
		path, text, want string
	}{
		{pattern(most, 3), pattern(most, 5), "719ce18f6b17d2c0db5afa72d71e2a12445d821d963979bb7887dbeca0ba0f79"},
		{pattern(most, 3), "", "8d6cb9992decfaa5bca1932417eeab89fcc8c4edc9caf996580475016b3bda94"},
		{"", pattern(most, 5), "380975de001a82305b296f3b935cb92f6e65ff83f0c285388d0843fc70155ec3"},
	} {
		c := closing{aKey(1), 1, x.path, 5, aNonce(4), x.text}
		s := c.closed(t, "P14.1 most", c.ring(t))
		if got := word.Hex(sha.Of(s)); got != x.want || len(s) != nothing+len(x.text) {
			t.Errorf("P14.1 Close of %d and %d bytes: %d bytes of the sum %s, want %s", len(x.path), len(x.text), len(s), got, x.want)
		}
		isOf(t, "P14.2 most", s, 1)
		opens(t, "P14.2 most", c.ring(t), c, s)
		agains(t, "P14.2 most", c.ring(t), c, s, s)
	}
}

// noNonces are texts that are no nonces.
func noNonces() []string {
	l := []string{pattern(most, 1), pattern(most+1, 1)}
	for n := range 300 {
		if n != 12 {
			l = append(l, pattern(n, 5))
		}
	}
	return l
}

func TestCloseNonce(t *testing.T) {
	c := aClosing()
	for _, nonce := range append(noNonces(), "", pattern(11, 5), pattern(13, 5)) {
		c.nonce = nonce
		closesNot(t, "P14.1 a nonce that is none", c.ring(t), c, api.ErrArg)
	}
	for i := range 256 {
		c.nonce = aNonce(i)
		closes(t, "P14.1 a nonce", c.ring(t), c, c.byRule())
	}
}

func TestCloseLong(t *testing.T) {
	for _, n := range []int{most + 1, most + 2, most + 16, 2 * most} {
		c := aClosing()
		c.path = pattern(n, 0)
		closesNot(t, "P14.1 a long path", c.ring(t), c, api.ErrLong)
		c.text = ""
		closesNot(t, "P14.1 a long path, and no text", c.ring(t), c, api.ErrLong)
		c.text = pattern(n, 1)
		closesNot(t, "P14.1 both long", c.ring(t), c, api.ErrLong)
		c.path = ""
		closesNot(t, "P14.1 a long text, and no path", c.ring(t), c, api.ErrLong)
		c.path = "a"
		closesNot(t, "P14.1 a long text", c.ring(t), c, api.ErrLong)
	}
	// A most of both is none too long; one byte more of either is.
	c := aClosing()
	c.path, c.text = pattern(most, 0), pattern(most+1, 0)
	closesNot(t, "P14.1 a text of a byte more", c.ring(t), c, api.ErrLong)
	c.path, c.text = c.text, c.path
	closesNot(t, "P14.1 a path of a byte more", c.ring(t), c, api.ErrLong)
}

// TestCloseOrder: of several errors it is the one that the chapter names first.
func TestCloseOrder(t *testing.T) {
	long := pattern(most+1, 0)
	for _, nonce := range []string{"", pattern(11, 0), pattern(13, 0), long} {
		for _, c := range []closing{{path: long}, {text: long}, {path: long, text: long}, {path: "a", text: "b"}} {
			c.nonce = nonce
			closesNot(t, "P14.1 a nonce that is none, ahead of what is long", rotated(t, 1), c, api.ErrArg)
		}
	}
}

// TestNoRing: a ring that is nil, or that its package did not make, goes ahead of all else.
func TestNoRing(t *testing.T) {
	good := aClosing().byRule()
	long := pattern(most+1, 0)
	for about, r := range map[string]*keyring.Ring{"nil": nil, "the zero value": {}, "a new one": new(keyring.Ring)} {
		for _, nonce := range []string{aNonce(5), "", pattern(11, 0), pattern(13, 0)} {
			for _, path := range []string{"app/db/password", "", long} {
				for _, text := range []string{"text", "", long} {
					closesNot(t, "P14.1 "+about, r, closing{path: path, version: 3, nonce: nonce, text: text}, api.ErrNil)
				}
				for _, s := range []string{good, "", good[:48], with(good, 0, 2), with(good, 4, 2), with(good, 60, 1), good[:nothing], long} {
					if got, err := Open(r, path, 3, s); got != "" || err != api.ErrNil {
						t.Errorf("P14.2 Open by %s: %x, %v, want ErrNil", about, got, err)
					}
					againsNot(t, "P14.2 "+about, r, path, 3, nonce, s, api.ErrNil)
				}
			}
		}
		if r != nil && (r.Newest() != 0 || r.Bytes() != "") {
			t.Errorf("R3: %s became a ring", about)
		}
	}
}

// TestCloseNewest: it is always the newest epoch's keys that close, whatever older ones are there.
func TestCloseNewest(t *testing.T) {
	r := rotated(t, 1)
	less := r.Copy()
	for n := 1; n <= api.MaxEpochs; n++ {
		c := aClosing()
		c.key, c.epoch = aKey(n), uint32(n)
		closes(t, "P14.1 behind rotations", r, c, c.byRule())
		closes(t, "P14.1 behind rotations, and retired ones", less, c, c.byRule())
		if n < api.MaxEpochs {
			rotate(t, r, n+1)
			rotate(t, less, n+1)
			retire(t, less, uint32(n))
		}
	}
	c := aClosing()
	c.key, c.epoch = aKey(64), 64
	for epoch := uint32(1); epoch < 64; epoch++ {
		retire(t, r, epoch)
		closes(t, "P14.1 behind retired ones", r, c, c.byRule())
	}
}

// TestCloseEpochs: each byte of the epoch stands in its place.
func TestCloseEpochs(t *testing.T) {
	for _, epoch := range []uint32{1, 2, 255, 256, 257, 65535, 65536, 65537, 1<<24 - 1, 1 << 24, 1<<24 + 1, 1<<31 - 1, 1 << 31, greatest - 1, greatest} {
		c := aClosing()
		c.epoch = epoch
		s := c.byRule()
		closes(t, "P14.1 epochs", c.ring(t), c, s)
		isOf(t, "P14.2 epochs", s, epoch)
		opens(t, "P14.2 epochs", c.ring(t), c, s)
	}
}

// TestCloseVersions: each byte of the version is tagged.
func TestCloseVersions(t *testing.T) {
	c := aClosing()
	r := c.ring(t)
	seen := map[string]uint64{}
	for i := range 64 {
		for _, version := range []uint64{1 << i, 1<<i - 1, math.MaxUint64 >> i, 0x0123456789abcdef << i} {
			c.version = version
			s := c.byRule()
			closes(t, "P14.1 versions", r, c, s)
			opens(t, "P14.2 versions", r, c, s)
			if other, is := seen[s]; is && other != version {
				t.Errorf("P14.1 the versions %d and %d have one envelope", version, other)
			}
			seen[s] = version
		}
	}
}

func TestSize(t *testing.T) {
	for n, want := range map[int]int{
		0: 49, 1: 50, 2: 51, 15: 64, 16: 65, 17: 66, 4047: 4096, most - 1: most + 48, most: most + 49,
		-1: 49, -2: 49, -48: 49, -49: 49, -50: 49, math.MinInt32: 49, math.MinInt: 49, math.MinInt + 1: 49,
	} {
		if got := Size(n); got != want {
			t.Errorf("P14.1 Size(%d): %d, want %d", n, got, want)
		}
	}
	if Size(0) != api.SealHead+api.TagSize || Size(api.MaxPlain) != api.MaxValue {
		t.Errorf("P14.1 Size(0): %d, Size(MaxPlain): %d", Size(0), Size(api.MaxPlain))
	}
	// What Close answers has as many, whatever the path is.
	for n := range 200 {
		c := aClosing()
		c.text, c.path = pattern(n, n), pattern(n*5%61, 1)
		if s := c.closed(t, "P14.1 Size", c.ring(t)); len(s) != Size(n) {
			t.Errorf("P14.1 Size(%d): %d, and Close answers %d bytes", n, Size(n), len(s))
		}
	}
}

// P14.2

// TestEpochSize: what has fewer bytes than an envelope of nothing, or more than one of MaxText, is of no epoch.
func TestEpochSize(t *testing.T) {
	s := aClosing()
	s.text = ""
	none := s.byRule()
	for n := range nothing {
		isOfNone(t, "P14.2 fewer bytes", none[:n])
		isOfNone(t, "P14.2 fewer bytes", aClosing().byRule()[:n])
		isOfNone(t, "P14.2 fewer bytes", strings.Repeat("\x01", n))
	}
	isOfNone(t, "P14.2 no byte", "")
	isOf(t, "P14.2 an envelope of nothing", none, 1)
	for _, n := range []int{nothing, nothing + 1, 100, most, most + 1, most + 48, most + 49} {
		isOf(t, "P14.2 so many bytes", "\x01\x01\x02\x03\x04"+pattern(n-5, 0), 0x01020304)
		isOf(t, "P14.2 so many bytes 1", strings.Repeat("\x01", n), 0x01010101)
		isOfNone(t, "P14.2 so many bytes 0", zeros(n))
	}
	for _, n := range []int{most + 50, most + 51, 2 * most, 4 * most} {
		isOfNone(t, "P14.2 more bytes", "\x01"+pattern(n-1, 0))
	}
}

// TestEpochMost: of a most of text one byte more is too many, even where it is its true envelope but for that.
func TestEpochMost(t *testing.T) {
	c := aClosing()
	c.text = pattern(most, 0)
	s := c.byRule()
	isOf(t, "P14.2 an envelope of MaxText", s, 1)
	opens(t, "P14.2 an envelope of MaxText", c.ring(t), c, s)
	isOfNone(t, "P14.2 an envelope of MaxText, and a byte", s+"\x00")
	isOfNone(t, "P14.2 an envelope of MaxText, a byte within", s[:100]+"\x00"+s[100:])
}

// TestEpochFirst: an envelope begins with the byte 1.
func TestEpochFirst(t *testing.T) {
	for _, c := range []closing{aClosing(), {aKey(1), 1, "a", 1, aNonce(1), ""}} {
		s := c.byRule()
		for first := range 256 {
			other := string([]byte{byte(first)}) + s[1:]
			if first == 1 {
				isOf(t, "P14.2 the first byte", other, 1)
			} else {
				isOfNone(t, "P14.2 another first byte", other)
			}
		}
	}
	// Nor is it an envelope if what begins with the byte 1 stands behind another one.
	isOfNone(t, "P14.2 a byte ahead", "\x00"+aClosing().byRule())
	isOfNone(t, "P14.2 a byte ahead", "\x02"+aClosing().byRule())
}

// TestEpochAny: Epoch looks at the epoch's bytes alone, and any will do, 0 too.
func TestEpochAny(t *testing.T) {
	for _, epoch := range []uint32{0, 1, 2, 255, 256, 65536, 1 << 24, 1 << 31, 0x01020304, greatest} {
		for _, n := range []int{44, 45, 60, 1000} {
			isOf(t, "P14.2 any epoch", "\x01"+number(uint64(epoch), 4)+pattern(n, 3), epoch)
			isOf(t, "P14.2 any epoch", "\x01"+number(uint64(epoch), 4)+zeros(n), epoch)
		}
	}
}

// TestOpenOlder: the envelope of an epoch opens while its key is there, and never again.
func TestOpenOlder(t *testing.T) {
	r := rotated(t, 1)
	var all []closing
	for n := 1; n <= 10; n++ {
		if n > 1 {
			rotate(t, r, n)
		}
		c := aClosing()
		c.key, c.epoch, c.text = aKey(n), uint32(n), pattern(3*n, n)
		closes(t, "P14.1 epochs", r, c, c.byRule())
		all = append(all, c)
		for _, c := range all {
			opens(t, "P14.2 older epochs", r, c, c.byRule())
		}
	}
	for gone := range 9 {
		retire(t, r, uint32(gone+1))
		for i, c := range all {
			if i <= gone {
				opensNot(t, "P14.2 retired", r, c.path, c.version, c.byRule(), api.ErrEpoch)
			} else {
				opens(t, "P14.2 behind retired ones", r, c, c.byRule())
			}
		}
	}
}

// TestOpenNever: of an epoch that never was nothing opens, right as its tag may be by another epoch's key.
func TestOpenNever(t *testing.T) {
	r := ringOf(t, rowsOf(2, 4, 256)...)
	for _, epoch := range []uint32{0, 1, 3, 5, 255, 257, 258, 512, 1 << 24, 1 << 31, greatest} {
		for _, key := range []string{aKey(int(epoch % 256)), aKey(2), aKey(4), aKey(0)} {
			c := aClosing()
			c.key, c.epoch = key, epoch
			isOf(t, "P14.2 an epoch that never was", c.byRule(), epoch)
			opensNot(t, "P14.2 an epoch that never was", r, c.path, c.version, c.byRule(), api.ErrEpoch)
		}
	}
	for _, x := range rowsOf(2, 4, 256) {
		c := aClosing()
		c.key, c.epoch = x.key, x.epoch
		opens(t, "P14.2 the epochs that are", r, c, c.byRule())
	}
}

// TestOpenOtherKey: the epoch's own key it must be, though another one of the ring has closed it.
func TestOpenOtherKey(t *testing.T) {
	r := ringOf(t, rowsOf(1, 2, 3)...)
	for epoch := 1; epoch <= 3; epoch++ {
		for key := range 6 {
			c := aClosing()
			c.key, c.epoch = aKey(key), uint32(epoch)
			if key == epoch {
				opens(t, "P14.2 its own key", r, c, c.byRule())
			} else {
				opensNot(t, "P14.2 another key", r, c.path, c.version, c.byRule(), api.ErrTag)
			}
		}
	}
	c := aClosing()
	for at := range 32 {
		for _, by := range []byte{1, 128, 255} {
			opensNot(t, "P14.2 a key with another byte", ringOf(t, row{1, with(c.key, at, by)}), c.path, c.version, c.byRule(), api.ErrTag)
		}
	}
}

// TestOpenEachByte: whichever byte of an envelope is another one, it does not open.
func TestOpenEachByte(t *testing.T) {
	// Some of these are one another's epochs with one other byte.
	rows := rowsOf(1, 2, 257, 65537, 1<<24+1)
	r := ringOf(t, rows...)
	has := map[uint32]row{}
	for _, x := range rows {
		has[x.epoch] = x
	}
	for _, text := range []string{"", "a", pattern(33, 1)} {
		c := closing{aKey(1), 1, "a/b", 7, aNonce(8), text}
		s := c.byRule()
		for at := range len(s) {
			for by := 1; by < 256; by++ {
				other := with(s, at, byte(by))
				want := api.ErrTag
				if at == 0 {
					want = api.ErrForm
				} else if at < 5 {
					epoch := uint32(other[1])<<24 | uint32(other[2])<<16 | uint32(other[3])<<8 | uint32(other[4])
					isOf(t, "P14.2 another byte of the epoch", other, epoch)
					if _, is := has[epoch]; !is {
						want = api.ErrEpoch
					}
				}
				opensNot(t, "P14.2 another byte at "+strconv.Itoa(at), r, c.path, c.version, other, want)
			}
		}
		opens(t, "P14.2 each byte its own", r, c, s)
	}
}

// TestOpenEachPlace: with another path, or another version, nothing opens.
func TestOpenEachPlace(t *testing.T) {
	for _, path := range []string{"a", "app/db/password", pattern(70, 0), zeros(5)} {
		c := aClosing()
		c.path = path
		r, s := c.ring(t), c.byRule()
		for at := range len(path) {
			for by := 1; by < 256; by <<= 1 {
				opensNot(t, "P14.2 another byte of the path", r, with(path, at, byte(by)), c.version, s, api.ErrTag)
			}
			opensNot(t, "P14.2 the path's beginning", r, path[:at], c.version, s, api.ErrTag)
			opensNot(t, "P14.2 the path's end", r, path[at+1:], c.version, s, api.ErrTag)
		}
		for _, other := range []string{"", path + "\x00", "\x00" + path, path + path, path + "/", pattern(most, 0)} {
			opensNot(t, "P14.2 another path", r, other, c.version, s, api.ErrTag)
		}
		for i := range 64 {
			opensNot(t, "P14.2 another version", r, path, c.version^1<<i, s, api.ErrTag)
		}
		for _, version := range []uint64{0, 1, 2, 4, 1 << 32, 3 << 32, 3 << 56, math.MaxUint64} {
			opensNot(t, "P14.2 another version", r, path, version, s, api.ErrTag)
		}
		opens(t, "P14.2 its own place", r, c, s)
	}
}

// TestOpenMoved: bytes that go from the path into the version, or the text, and back, open nothing.
func TestOpenMoved(t *testing.T) {
	c := closing{aKey(1), 1, zeros(8) + "a", 0, aNonce(1), "text"}
	s := c.byRule()
	r := c.ring(t)
	opens(t, "P14.2 its own place", r, c, s)
	for n := range 9 {
		opensNot(t, "P14.2 a path that is shorter by bytes 0", r, c.path[n:], 1+uint64(n), s, api.ErrTag)
		if n > 0 {
			opensNot(t, "P14.2 a path that is shorter by bytes 0", r, c.path[n:], 0, s, api.ErrTag)
		}
	}
	// The tag without the length ahead would be the same of these.
	tagKey, _ := mac.Derive(c.key, "tag", 32)
	body := s[:len(s)-32]
	opensNot(t, "P14.2 a tag without the path's length", r, c.path, 0, body+mac.Of(tagKey, c.path, number(0, 8), body), api.ErrTag)
	opensNot(t, "P14.2 a tag without the version", r, c.path, 0, body+mac.Of(tagKey, number(9, 4), c.path, body), api.ErrTag)
	opensNot(t, "P14.2 a tag of the text alone", r, c.path, 0, body+mac.Of(tagKey, number(9, 4), c.path, number(0, 8), body[17:]), api.ErrTag)
	opensNot(t, "P14.2 a tag of what was not turned", r, c.path, 0, body+mac.Of(tagKey, number(9, 4), c.path, number(0, 8), body[:17], "text"), api.ErrTag)
	opensNot(t, "P14.2 a tag of another order", r, c.path, 0, body+mac.Of(tagKey, body, number(9, 4), c.path, number(0, 8)), api.ErrTag)
	opensNot(t, "P14.2 a tag by the key itself", r, c.path, 0, body+mac.Of(c.key, number(9, 4), c.path, number(0, 8), body), api.ErrTag)
	opens(t, "P14.2 the tag", r, c, body+mac.Of(tagKey, number(9, 4), c.path, number(0, 8), body))
}

// TestOpenCut: an envelope that is longer or shorter by some bytes does not open, nor do pieces of two.
func TestOpenCut(t *testing.T) {
	c := aClosing()
	r, s := c.ring(t), c.byRule()
	for n := nothing; n < len(s); n++ {
		opensNot(t, "P14.2 bytes that are cut off", r, c.path, c.version, s[:n], api.ErrTag)
		opensNot(t, "P14.2 bytes of the text that are cut out", r, c.path, c.version, s[:17]+s[17+len(s)-n:], api.ErrTag)
	}
	for _, more := range []string{"\x00", "\x01", "\xff", s, zeros(16), zeros(32)} {
		opensNot(t, "P14.2 more bytes", r, c.path, c.version, s+more, api.ErrTag)
		opensNot(t, "P14.2 more bytes of text", r, c.path, c.version, s[:len(s)-32]+more+s[len(s)-32:], api.ErrTag)
	}
	other := c
	other.nonce = aNonce(6)
	o := other.byRule()
	for at := 6; at < len(s); at++ {
		if joined := s[:at] + o[at:]; joined != s && joined != o {
			opensNot(t, "P14.2 pieces of two", r, c.path, c.version, joined, api.ErrTag)
		}
	}
	// A tag must be there whole: its first bytes, or none, do not do.
	for n := range 32 {
		opensNot(t, "P14.2 a tag with bytes 0", r, c.path, c.version, s[:len(s)-32+n]+zeros(32-n), api.ErrTag)
	}
}

// TestOpenOrder: of several errors it is the one that the chapter names first.
func TestOpenOrder(t *testing.T) {
	c := aClosing()
	r, s, long := c.ring(t), c.byRule(), pattern(most+1, 0)
	never := with(s, 3, 1)
	for about, x := range map[string]string{
		"another first byte": with(s, 0, 3), "fewer bytes": s[:48], "no byte": "", "more bytes": "\x01" + pattern(most+49, 0),
		"another first byte, of another epoch": with(never, 0, 3), "another first byte, and another tag": with(with(s, 0, 3), len(s)-1, 3),
	} {
		opensNot(t, "P14.2 "+about, r, c.path, c.version, x, api.ErrForm)
		opensNot(t, "P14.2 "+about+", and a long path", r, long, c.version, x, api.ErrForm)
	}
	for about, x := range map[string]string{"right": s, "another epoch": never, "another tag": with(s, len(s)-1, 1), "both": with(never, len(s)-1, 1)} {
		opensNot(t, "P14.2 a long path, "+about, r, long, c.version, x, api.ErrLong)
		opensNot(t, "P14.2 a long path, "+about, r, c.path+pattern(2*most, 0), c.version, x, api.ErrLong)
	}
	for _, x := range []string{never, with(never, 10, 1), with(never, 20, 1), with(never, len(s)-1, 1)} {
		opensNot(t, "P14.2 another epoch, and what else", r, c.path, c.version, x, api.ErrEpoch)
		opensNot(t, "P14.2 another epoch, and another place", r, "other", 77, x, api.ErrEpoch)
	}
	c.path = pattern(most, 0)
	opens(t, "P14.2 a path of MaxText", r, c, c.byRule())
	opensNot(t, "P14.2 a path of one byte more", r, c.path+"\x00", c.version, c.byRule(), api.ErrLong)
}

// TestAgain: whatever epoch it was of, it is of the newest one then, by the nonce that is handed in.
func TestAgain(t *testing.T) {
	r := rotated(t, 5)
	retire(t, r, 2)
	for epoch := 1; epoch <= 5; epoch++ {
		for _, text := range []string{"", "a", pattern(16, 1), pattern(100, 1)} {
			old := closing{aKey(epoch), uint32(epoch), "a/b", 9, aNonce(epoch), text}
			next := closing{aKey(5), 5, "a/b", 9, aNonce(77), text}
			if epoch == 2 {
				againsNot(t, "P14.2 of a retired one", r, "a/b", 9, aNonce(77), old.byRule(), api.ErrEpoch)
				continue
			}
			agains(t, "P14.2 again", r, next, old.byRule(), next.byRule())
			opens(t, "P14.2 what is closed again", r, next, next.byRule())
			opens(t, "P14.2 what was closed", r, old, old.byRule())
			// The same nonce may be handed in, too: of the newest epoch it is the same envelope then.
			next.nonce = old.nonce
			agains(t, "P14.2 again by the same nonce", r, next, old.byRule(), next.byRule())
			if epoch == 5 && next.byRule() != old.byRule() {
				t.Errorf("P14.2 Again of the newest epoch by the same nonce: another envelope")
			}
		}
	}
}

// TestAgainOnwards: what is closed again at each rotation outlives the keys by which it was closed.
func TestAgainOnwards(t *testing.T) {
	r := rotated(t, 1)
	c := aClosing()
	s := c.closed(t, "P14.2 again onwards", r)
	for n := 2; n < 100; n++ {
		was, old := r.Copy(), s
		rotate(t, r, n)
		c.key, c.epoch, c.nonce = aKey(n), uint32(n), aNonce(n)
		agains(t, "P14.2 again onwards", r, c, old, c.byRule())
		s = c.byRule()
		retire(t, r, uint32(n-1))
		opens(t, "P14.2 again onwards", r, c, s)
		opensNot(t, "P14.2 what was ahead of it", r, c.path, c.version, old, api.ErrEpoch)
		opens(t, "P14.2 what was ahead of it, by a copy of then", was, c, old)
		opensNot(t, "P14.2 the new one, by a copy of then", was, c.path, c.version, s, api.ErrEpoch)
	}
}

// TestAgainNonce: a nonce of another size is told, if the envelope opens.
func TestAgainNonce(t *testing.T) {
	r := rotated(t, 3)
	for epoch := 1; epoch <= 3; epoch++ {
		c := aClosing()
		c.key, c.epoch = aKey(epoch), uint32(epoch)
		s := c.byRule()
		for _, nonce := range append(noNonces(), "", pattern(11, 5), pattern(13, 5)) {
			againsNot(t, "P14.2 a nonce that is none", r, c.path, c.version, nonce, s, api.ErrArg)
		}
	}
	c := aClosing()
	s := c.byRule()
	for _, nonce := range []string{"", pattern(11, 5), pattern(13, 5), aNonce(5), pattern(most+1, 0)} {
		againsNot(t, "P14.2 Open's error ahead of the nonce's", r, c.path, c.version, nonce, with(s, 0, 2), api.ErrForm)
		againsNot(t, "P14.2 Open's error ahead of the nonce's", r, c.path, c.version, nonce, s[:48], api.ErrForm)
		againsNot(t, "P14.2 Open's error ahead of the nonce's", r, c.path, c.version, nonce, "", api.ErrForm)
		againsNot(t, "P14.2 Open's error ahead of the nonce's", r, pattern(most+1, 0), c.version, nonce, s, api.ErrLong)
		againsNot(t, "P14.2 Open's error ahead of the nonce's", r, c.path, c.version, nonce, with(s, 4, 8), api.ErrEpoch)
		againsNot(t, "P14.2 Open's error ahead of the nonce's", r, c.path, c.version, nonce, with(s, 20, 8), api.ErrTag)
		againsNot(t, "P14.2 Open's error ahead of the nonce's", r, c.path, c.version+1, nonce, s, api.ErrTag)
		againsNot(t, "P14.2 Open's error ahead of the nonce's", r, c.path+"a", c.version, nonce, s, api.ErrTag)
	}
}

// P14.3

// TestClosedOpens: texts and paths of all lengths, with all versions, are what they were.
func TestClosedOpens(t *testing.T) {
	r := rotated(t, 2)
	for n := range 70 {
		for m := range 35 {
			c := closing{aKey(2), 2, pattern(m, n), uint64(n) << m, aNonce(m), pattern(n, m)}
			s := c.closed(t, "P14.3", r)
			if s != c.byRule() {
				t.Errorf("P14.1 Close of %d and %d bytes: %x, want %x", m, n, s, c.byRule())
			}
			opens(t, "P14.3 closed and opened", r, c, s)
		}
	}
	for n := range 256 {
		c := aClosing()
		c.text = string([]byte{byte(n)})
		opens(t, "P14.3 each byte", c.ring(t), c, c.closed(t, "P14.3", c.ring(t)))
	}
}

// TestClosedOpensLater: what was closed opens as long as its epoch's key is there, whatever becomes of the ring.
func TestClosedOpensLater(t *testing.T) {
	r := rotated(t, 1)
	type sealed struct {
		c closing
		s string
	}
	var all []sealed
	for n := 2; n < 120; n++ {
		c := aClosing()
		c.key, c.epoch, c.nonce, c.text = aKey(n-1), uint32(n-1), aNonce(n), pattern(n, n)
		all = append(all, sealed{c, c.closed(t, "P14.3 later", r)})
		switch n % 3 {
		case 0:
			r = r.Copy()
		case 1:
			read, err := keyring.Read(r.Bytes())
			if err != api.OK {
				t.Fatalf("keyring.Read: %v", err)
			}
			r = read
		}
		rotate(t, r, n)
		if n > 8 {
			retire(t, r, uint32(n-8))
		}
		for _, x := range all {
			if int(x.c.epoch) > n-8 {
				opens(t, "P14.3 later", r, x.c, x.s)
			} else if int(x.c.epoch) > n-12 {
				opensNot(t, "P14.3 too late", r, x.c.path, x.c.version, x.s, api.ErrEpoch)
			}
		}
	}
}

// TestClosedApart: what one ring closed its copy, and one that was read from its bytes, opens, and the other way round.
func TestClosedApart(t *testing.T) {
	r := rotated(t, 3)
	read, err := keyring.Read(r.Bytes())
	if err != api.OK {
		t.Fatalf("keyring.Read: %v", err)
	}
	all := []*keyring.Ring{r, r.Copy(), read, read.Copy().Copy()}
	for i, one := range all {
		for j, other := range all {
			c := closing{aKey(3), 3, "a", 1, aNonce(10*i + j), pattern(20, i)}
			s := c.closed(t, "P14.3 apart", one)
			closes(t, "P14.3 apart", other, c, s)
			opens(t, "P14.3 apart", other, c, s)
		}
	}
	// One that goes on closes for itself alone.
	rotate(t, r, 4)
	c := closing{aKey(4), 4, "a", 1, aNonce(1), "text"}
	s := c.closed(t, "P14.3 apart", r)
	for _, other := range all[1:] {
		opensNot(t, "P14.3 by a ring that did not rotate", other, "a", 1, s, api.ErrEpoch)
		c := closing{aKey(3), 3, "a", 1, aNonce(1), "text"}
		closes(t, "P14.3 by a ring that did not rotate", other, c, c.byRule())
	}
}

// TestNothingShows: the bytes ahead of the text, and how many an envelope has, are the same for any two texts of one length.
func TestNothingShows(t *testing.T) {
	r := rotated(t, 3)
	for n := range 100 {
		head := "\x01\x00\x00\x00\x03" + aNonce(n)
		for i, text := range []string{zeros(n), ones(n), pattern(n, 0), pattern(n, 1), strings.Repeat("a", n), strings.Repeat("\x01", n)} {
			for _, path := range []string{"", "a", "a/b/c", pattern(n, n)} {
				c := closing{aKey(3), 3, path, uint64(i * n), aNonce(n), text}
				s := c.closed(t, "P14.3 nothing shows", r)
				if len(s) != nothing+n || s[:17] != head {
					t.Errorf("P14.3 Close of %x: %d bytes that begin with %x, want %d, %x", text, len(s), s[:17], nothing+n, head)
				}
				if n > 8 && strings.Contains(s, text) {
					t.Errorf("P14.3 Close of %x: it shows in %x", text, s)
				}
			}
		}
	}
	for i, text := range []string{zeros(most), ones(most), pattern(most, 1)} {
		c := closing{aKey(3), 3, "a", uint64(i), aNonce(i), text}
		if s := c.closed(t, "P14.3 nothing shows", r); len(s) != nothing+most || s[:17] != "\x01\x00\x00\x00\x03"+aNonce(i) {
			t.Errorf("P14.3 Close of MaxText: %d bytes that begin with %x", len(s), s[:17])
		}
	}
}

// TestRingStays: no call changes the ring, and each one answers the same again.
func TestRingStays(t *testing.T) {
	r := rotated(t, 4)
	was := r.Bytes()
	c := aClosing()
	c.key, c.epoch = aKey(4), 4
	s := c.byRule()
	for range 3 {
		closes(t, "R6", r, c, s)
		opens(t, "R6", r, c, s)
		agains(t, "R6", r, c, s, s)
		isOf(t, "R6", s, 4)
		opensNot(t, "R6", r, c.path, 4, s, api.ErrTag)
		opensNot(t, "R6", r, c.path, 3, with(s, 4, 16), api.ErrEpoch)
		closesNot(t, "R6", r, closing{}, api.ErrArg)
		if r.Bytes() != was || r.Newest() != 4 {
			t.Errorf("R5 the ring became another one: %x, want %x", r.Bytes(), was)
		}
	}
}

// TestExample: the chapter's.
func TestExample(t *testing.T) {
	c := closing{aKey(1), 1, "a", 1, aNonce(1), ""}
	s := c.closed(t, "P14.1 the example", rotated(t, 1))
	if len(s) != 17+32 || s[:17] != "\x01\x00\x00\x00\x01"+c.nonce || s != c.byRule() {
		t.Errorf("P14.1 the example: %x", s)
	}
	opens(t, "P14.2 the example", rotated(t, 1), c, s)
}
