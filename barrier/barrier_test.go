package barrier

import (
	"math"
	"slices"
	"strconv"
	"strings"
	"testing"

	"scrinium/api"
	"scrinium/ctr"
	"scrinium/keyring"
	"scrinium/mac"
	"scrinium/seal"
	"scrinium/sha"
	"scrinium/word"
)

const (
	greatest = math.MaxUint32 // epoch
	most     = 1 << 20        // bytes of a path, and of a text
)

// pattern is n bytes that repeat only after 256, from one of them on.
func pattern(n, from int) string {
	b := make([]byte, n)
	for i := range b {
		b[i] = byte((i+from)*7 + 3)
	}
	return string(b)
}

// aKey is the i-th of 256 keys that are unlike, each of which may be a root, too.
func aKey(i int) string { return pattern(32, 41*i) }

// aNonce is the i-th of 256 nonces that are unlike.
func aNonce(i int) string { return pattern(12, i) }

// zeros are n bytes 0, ones n bytes 255.
func zeros(n int) string { return strings.Repeat("\x00", n) }
func ones(n int) string  { return strings.Repeat("\xff", n) }

// with is s, the byte at a place either or another one.
func with(s string, at int, by byte) string {
	b := []byte(s)
	b[at] ^= by
	return string(b)
}

// number is the last n bytes of a number, the highest first.
func number(x uint64, n int) string {
	b := make([]byte, n)
	for i := range b {
		b[i] = byte(x >> (8 * (n - 1 - i)))
	}
	return string(b)
}

// someTexts are count texts, each as long as a root.
func someTexts(count int) []string {
	l := make([]string, count)
	for i := range l {
		l[i] = pattern(32, 31*i*i+5*i)
	}
	return l
}

// headed is a share's bytes by layer 6's words.
func headed(place, n int, s string) string { return string([]byte{byte(place), byte(n)}) + s }

// sharesBy are a root's shares by layer 6's words, made by no function of the program.
func sharesBy(root string, l []string) []string {
	last := []byte(root)
	n := len(l) + 1
	var shares []string
	for i, s := range l {
		for j := range last {
			last[j] ^= s[j]
		}
		shares = append(shares, headed(i+1, n, s))
	}
	return append(shares, headed(n, n, string(last)))
}

// row is an epoch of a ring, and its key.
type row struct {
	epoch uint32
	key   string
}

// rowsOf are the epochs, which have the keys of their numbers, modulo 256.
func rowsOf(epochs ...uint32) []row {
	var l []row
	for _, epoch := range epochs {
		l = append(l, row{epoch, aKey(int(epoch % 256))})
	}
	return l
}

// upTo are the epochs from 1 to n, with the keys of their numbers.
func upTo(n int) []row {
	var l []row
	for i := range n {
		l = append(l, row{uint32(i + 1), aKey(i + 1)})
	}
	return l
}

// epochsOf are those of rows.
func epochsOf(rows []row) []uint32 {
	var l []uint32
	for _, x := range rows {
		l = append(l, x.epoch)
	}
	return l
}

// bytesOf are those of a ring of rows, whether or not there may be one.
func bytesOf(rows []row) string {
	s := string([]byte{byte(len(rows))})
	for _, x := range rows {
		s += number(uint64(x.epoch), 4) + x.key
	}
	return s
}

// closing is what is closed.
type closing struct {
	row
	path    string
	version uint64
	nonce   string
	text    string
}

// byRule is the envelope by layer 14's words.
func (c closing) byRule() string {
	cipherKey, _ := mac.Derive(c.key, "cipher", 16)
	tagKey, _ := mac.Derive(c.key, "tag", 32)
	turned, err := ctr.Turn(cipherKey, c.nonce, 0, c.text)
	if err != api.OK {
		panic(err)
	}
	s := "\x01" + number(uint64(c.epoch), 4) + c.nonce + turned
	return s + mac.Of(tagKey, number(uint64(len(c.path)), 4)+c.path+number(c.version, 8)+s)
}

// headerBy is a header by the chapter's words, made by no function of this package.
func headerBy(n int, root, nonce string, rows ...row) string {
	return string([]byte{byte(n)}) + closing{row{1, root}, "barrier", uint64(n), nonce, bytesOf(rows)}.byRule()
}

// told is what a barrier tells of itself.
type told struct {
	state   uint8
	header  string
	have, n int
	epochs  []uint32
}

// sealedAs is what a sealed one tells, to which so many shares have come.
func sealedAs(header string, have int) told {
	return told{state: api.BarSealed, header: header, have: have, n: int(header[0])}
}

// openAs is what an open one tells, whose ring has these rows.
func openAs(header string, rows ...row) told {
	return told{state: api.BarOpen, header: header, n: int(header[0]), epochs: epochsOf(rows)}
}

// toldBy is what a barrier tells.
func toldBy(b *Barrier) told {
	have, n := b.Have()
	return told{b.State(), b.Header(), have, n, b.Epochs()}
}

// tells says where a barrier tells something else of itself.
func tells(t *testing.T, about string, b *Barrier, want told) {
	t.Helper()
	got := toldBy(b)
	if got.state != want.state || got.have != want.have || got.n != want.n || !slices.Equal(got.epochs, want.epochs) {
		t.Errorf("%s: State %d, Have %d, %d, Epochs %d, want %d, %d, %d, %d", about, got.state, got.have, got.n, got.epochs, want.state, want.have, want.n, want.epochs)
	}
	if got.header != want.header {
		t.Errorf("%s: Header %.200x of %d bytes, want %.200x of %d", about, got.header, len(got.header), want.header, len(want.header))
	}
}

// is says where a call was answered something else.
func is(t *testing.T, about string, got, want api.Errno) {
	t.Helper()
	if got != want {
		t.Errorf("%s: %v, want %v", about, got, want)
	}
}

// begun is an open barrier, of a ring of key, and its shares.
func begun(t *testing.T, root, key, nonce string, l ...string) (*Barrier, []string) {
	t.Helper()
	b := New()
	shares, err := b.Begin(root, key, nonce, l...)
	if err != api.OK || len(shares) != len(l)+1 {
		t.Fatalf("P15.1 Begin by %d texts: %d shares, %v", len(l), len(shares), err)
	}
	return b, shares
}

// loaded is a sealed barrier of a header.
func loaded(t *testing.T, header string) *Barrier {
	t.Helper()
	b := New()
	if err := b.Load(header); err != api.OK {
		t.Fatalf("P15.1 Load(%.80x) of %d bytes: %v", header, len(header), err)
	}
	tells(t, "P15.1 Load", b, sealedAs(header, 0))
	return b
}

// ofRows is an open barrier whose ring has these rows, by a root of two shares, and these.
func ofRows(t *testing.T, rows ...row) (*Barrier, []string) {
	t.Helper()
	b := loaded(t, headerBy(2, aKey(90), aNonce(1), rows...))
	shares := sharesBy(aKey(90), someTexts(1))
	opens(t, "P15.2 a header of rows", b, shares...)
	tells(t, "P15.2 a header of rows", b, openAs(headerBy(2, aKey(90), aNonce(1), rows...), rows...))
	return b, shares
}

// unseals says where Unseal answers something else.
func unseals(t *testing.T, about string, b *Barrier, s string, want bool, wantErr api.Errno) {
	t.Helper()
	if got, err := b.Unseal(s); got != want || err != wantErr {
		t.Errorf("%s: Unseal(%.70x): %v, %v, want %v, %v", about, s, got, err, want, wantErr)
	}
}

// comes says where shares, none of which is the last one, are not taken.
func comes(t *testing.T, about string, b *Barrier, shares ...string) {
	t.Helper()
	for _, s := range shares {
		unseals(t, about, b, s, false, api.OK)
	}
}

// opens says where a sealed barrier is not open behind these shares, and behind the last one alone.
func opens(t *testing.T, about string, b *Barrier, shares ...string) {
	t.Helper()
	header, last := b.Header(), len(shares)-1
	have, _ := b.Have()
	for i, s := range shares[:last] {
		comes(t, about, b, s)
		tells(t, about, b, sealedAs(header, have+i+1))
	}
	unseals(t, about, b, shares[last], true, api.OK)
	if have, n := b.Have(); b.State() != api.BarOpen || b.Header() != header || have != 0 || n != int(header[0]) || len(b.Epochs()) == 0 {
		t.Errorf("%s: behind all shares State %d, Have %d, %d, Epochs %d", about, b.State(), have, n, b.Epochs())
	}
}

// opensNot says where something else than ErrTag is told of shares of which one is wrong, or is kept of them.
func opensNot(t *testing.T, about string, b *Barrier, shares ...string) {
	t.Helper()
	header, last := b.Header(), len(shares)-1
	comes(t, about, b, shares[:last]...)
	tells(t, about, b, sealedAs(header, last))
	unseals(t, about, b, shares[last], false, api.ErrTag)
	tells(t, about+", all have to come again", b, sealedAs(header, 0))
}

// seals says where an open barrier is not sealed.
func seals(t *testing.T, about string, b *Barrier) {
	t.Helper()
	header := b.Header()
	is(t, about+": Seal", b.Seal(), api.OK)
	tells(t, about, b, sealedAs(header, 0))
}

// puts says where Put answers another envelope, and gives that.
func puts(t *testing.T, about string, b *Barrier, c closing) string {
	t.Helper()
	want := c.byRule()
	if got, err := b.Put(c.path, c.version, c.nonce, c.text); got != want || err != api.OK {
		t.Errorf("%s: Put(%.40x, %d, %x, %.40x): %.80x, %v, want %.80x", about, c.path, c.version, c.nonce, c.text, got, err, want)
	}
	return want
}

// gets says where Get answers something else.
func gets(t *testing.T, about string, b *Barrier, c closing, want string, wantErr api.Errno) {
	t.Helper()
	if got, err := b.Get(c.path, c.version, c.byRule()); got != want || err != wantErr {
		t.Errorf("%s: Get of the epoch %d: %.40x, %v, want %.40x, %v", about, c.epoch, got, err, want, wantErr)
	}
}

// rotates says where Rotate answers something else.
func rotates(t *testing.T, about string, b *Barrier, key, nonce string, want uint32, wantErr api.Errno) {
	t.Helper()
	if epoch, err := b.Rotate(key, nonce); epoch != want || err != wantErr {
		t.Errorf("%s: Rotate by %d and %d bytes: %d, %v, want %d, %v", about, len(key), len(nonce), epoch, err, want, wantErr)
	}
}

// holds says where an open barrier's ring has other rows: which key each epoch has shows in what it gets, and the newest in what it puts.
func holds(t *testing.T, about string, b *Barrier, rows ...row) {
	t.Helper()
	tells(t, about, b, openAs(b.Header(), rows...))
	for _, x := range rows {
		gets(t, about, b, closing{x, "a/b", 7, aNonce(9), "a text"}, "a text", api.OK)
	}
	puts(t, about, b, closing{rows[len(rows)-1], "a/b", 7, aNonce(9), "a text"})
}

// try is a call, and whether it answered nothing beside its error.
type try func(b *Barrier) (bool, api.Errno)

// wrongSizes are texts that have other sizes than that.
func wrongSizes(size int) []string {
	l := []string{"", pattern(size-1, 3), pattern(size+1, 3), pattern(2*size, 3), pattern(256+size, 3)}
	for n := range 70 {
		if n != size {
			l = append(l, pattern(n, 5))
		}
	}
	return l
}

// begins are calls of Begin, the first of which may be.
func begins() []try {
	var l []try
	add := func(root, key, nonce string, texts ...string) {
		l = append(l, func(b *Barrier) (bool, api.Errno) {
			shares, err := b.Begin(root, key, nonce, texts...)
			return len(shares) == 0, err
		})
	}
	add(aKey(1), aKey(2), aNonce(3), someTexts(2)...)
	add(aKey(1), aKey(2), aNonce(3))
	add("", "", "")
	add(pattern(31, 0), aKey(2), aNonce(3))
	add(aKey(1), pattern(33, 0), aNonce(3))
	add(aKey(1), aKey(2), pattern(11, 0))
	add(aKey(1), aKey(2), aNonce(3), "short")
	add(aKey(1), aKey(2), aNonce(3), someTexts(16)...)
	return l
}

// loads are calls of Load, the first of which may be.
func loads() []try {
	good := headerBy(3, aKey(1), aNonce(3), upTo(1)...)
	var l []try
	for _, header := range []string{good, headerBy(1, aKey(1), aNonce(3), upTo(3)...), "", "\x00", "\x03", good[:49], with(good, 0, 3), with(good, 1, 1), "\x11" + good[1:]} {
		l = append(l, func(b *Barrier) (bool, api.Errno) { return true, b.Load(header) })
	}
	return l
}

// unsealings are calls of Unseal.
func unsealings() []try {
	var l []try
	for _, s := range append(sharesBy(aKey(1), someTexts(2)), aKey(1), "", "\x01\x01", headed(1, 1, aKey(1)), headed(1, 2, "a"), headed(0, 3, aKey(1)), headed(17, 17, aKey(1))) {
		l = append(l, func(b *Barrier) (bool, api.Errno) {
			is, err := b.Unseal(s)
			return !is, err
		})
	}
	return l
}

// sealings are calls of Seal.
func sealings() []try {
	return []try{func(b *Barrier) (bool, api.Errno) { return true, b.Seal() }}
}

// changes are calls of Rotate and of Retire.
func changes() []try {
	var l []try
	for _, nonce := range []string{aNonce(3), "", pattern(11, 0), pattern(13, 0)} {
		for _, key := range []string{aKey(1), "", pattern(31, 0), pattern(33, 0)} {
			l = append(l, func(b *Barrier) (bool, api.Errno) {
				epoch, err := b.Rotate(key, nonce)
				return epoch == 0, err
			})
		}
		for _, epoch := range []uint32{0, 1, 2, greatest} {
			l = append(l, func(b *Barrier) (bool, api.Errno) { return true, b.Retire(epoch, nonce) })
		}
	}
	return l
}

// uses are calls of Put and of Get.
func uses() []try {
	long := pattern(most+1, 0)
	var l []try
	for _, path := range []string{"a/b", "", "barrier", long} {
		for _, nonce := range []string{aNonce(3), "", pattern(13, 0)} {
			for _, text := range []string{"text", "", long} {
				l = append(l, func(b *Barrier) (bool, api.Errno) {
					s, err := b.Put(path, 3, nonce, text)
					return s == "", err
				})
			}
		}
		good := closing{row{1, aKey(1)}, "a/b", 3, aNonce(3), "text"}.byRule()
		header := headerBy(3, aKey(1), aNonce(3), upTo(1)...)
		for _, s := range []string{good, header[1:], header, "", good[:48], with(good, 0, 1), with(good, 4, 2), with(good, 20, 1), long} {
			l = append(l, func(b *Barrier) (bool, api.Errno) {
				s, err := b.Get(path, 3, s)
				return s == "", err
			})
		}
	}
	return l
}

// refuses says where one of some calls answers something else than an error alone, or does something.
func refuses(t *testing.T, about string, b *Barrier, want api.Errno, calls ...[]try) {
	t.Helper()
	was := toldBy(b)
	for _, do := range slices.Concat(calls...) {
		if nothing, err := do(b); !nothing || err != want {
			t.Errorf("%s: %v, nothing beside it: %v, want %v", about, err, nothing, want)
		}
	}
	tells(t, about, b, was)
}

// TestNotThere: a barrier that is nil, or that this package did not make, is none, whatever it is given.
func TestNotThere(t *testing.T) {
	for about, b := range map[string]*Barrier{"nil": nil, "the zero value": {}, "a new one": new(Barrier)} {
		for range 2 {
			refuses(t, "R3 "+about, b, api.ErrNil, begins(), loads(), unsealings(), sealings(), changes(), uses())
			tells(t, "R3 "+about, b, told{})
		}
	}
}

// P15.1

func TestNew(t *testing.T) {
	b := New()
	for range 2 {
		tells(t, "P15.1 New", b, told{state: api.BarNone})
		refuses(t, "P15.1 not begun", b, api.ErrState, unsealings(), sealings(), changes(), uses())
	}
	// Two of them have nothing in common.
	one, other := New(), New()
	if _, err := one.Begin(aKey(1), aKey(2), aNonce(3)); err != api.OK {
		t.Errorf("P15.1 Begin behind what was refused: %v", err)
	}
	tells(t, "P15.1 the other one", other, told{})
	is(t, "P15.1 Load behind what was refused", b.Load(one.Header()), api.OK)
}

// known are headers, and the last shares of their roots, that were worked out elsewhere.
func known() []struct {
	root, key, nonce string
	texts            int
	header, last     string
} {
	return []struct {
		root, key, nonce string
		texts            int
		header, last     string
	}{
		{zeros(32), zeros(32), zeros(12), 0,
			"0101000000010000000000000000000000002ed0cb43737ee723add643e06731af8067a548dbaec945a03445cdb1574be127990d2e49df377410af25b49bf80798137a13cd9ec9683b6ddda56b48aa6aa619be60d926a9",
			"01010000000000000000000000000000000000000000000000000000000000000000"},
		{ones(32), ones(32), ones(12), 1,
			"020100000001ffffffffffffffffffffffff05b74a2510d667f3bdfef98d14698f3a96b88bebbf0d0f0c42be91452c1f49acf4fbdf0d5b3c1d3125be471abea136cfae3e0954d280c394f433416cb955025e2ef103676f",
			"0202fcf5eee7e0d9d2cbc4bdb6afa8a19a938c857e777069625b544d463f38312a23"},
		{aKey(1), aKey(2), aNonce(3), 2,
			"030100000001181f262d343b424950575e655898abff9251789d4353ab529b9e3cc9d2d766d0575e7a8d44b8c17404c8632cfd9e3e35f942e1c58238c4b69f2981f3b88770f7ad0503df13776bb9898e1a012fe79cd063",
			"0303de252c3b3a414857561d64737279808f8e955cabaab1b8c7c6cdd4a3e2e9f0ff"},
		{"abcdefghijklmnopqrstuvwxyz012345", aKey(9), "twelve bytes", 4,
			"0501000000017477656c7665206279746573b14fe143aefc7dcbae08f2b83641f064efc8ddb7fbd419afb7b8a5cfa28c0c6ef0bb41a00770f297ca0e18e0bbf7a221cf6dbfd74a2abe5f57a055d53f016474c18500454b",
			"05053dcedf888182838cc5b6c7d0090a0b140dde2fd8d192939c95869ced96979051"},
		{aKey(7), aKey(7), aNonce(7), 15,
			"100100000001343b424950575e656c737a81a3d0d2603552c0120636e30e0a6471507de202ab484ee9447181646fd2b3df44faa6caa34e237a8c7d9188f0ae383150718bcffdfaaf248142b826596393a127d439976a9b",
			"101085632d7fed438587a583dd2fdd63c58785a36d5f2d438547a583bdeffd230587"},
	}
}

func TestKnown(t *testing.T) {
	for _, c := range known() {
		b, shares := begun(t, c.root, c.key, c.nonce, someTexts(c.texts)...)
		if word.Hex(b.Header()) != c.header || word.Hex(shares[c.texts]) != c.last {
			t.Errorf("P15.1 Begin by %d texts: the header %x, the last share %x, want %s, %s", c.texts, b.Header(), shares[c.texts], c.header, c.last)
		}
		header, is := word.Unhex(c.header)
		if !is {
			t.Fatalf("no hex text: %s", c.header)
		}
		other := loaded(t, header)
		opens(t, "P15.2 a known header", other, shares...)
		holds(t, "P15.2 a known header", other, row{1, c.key})
	}
}

// TestKnownRow: of 64 keys, each third one of which is retired then, all headers have, one behind the other, the sum that was worked out elsewhere.
func TestKnownRow(t *testing.T) {
	b, _ := begun(t, aKey(1), aKey(2), aNonce(1), someTexts(2)...)
	all := []string{b.Header()}
	for epoch := 2; epoch <= 64; epoch++ {
		rotates(t, "P15.3 a known row", b, aKey(epoch+1), aNonce(epoch), uint32(epoch), api.OK)
		all = append(all, b.Header())
	}
	first := "01000000017b828990979ea5acb3bac1c85d7be6664571e3bb3376ed576140544dc0876f85e4c563ad9df869a703be85a068d705327f22585b"
	newest := "01000000407b828990979ea5acb3bac1c8611b4a517e7bd64f17505cd173be7930a65b15c28aeea3ca6f426dc0888a4827c533ccd95542728b"
	if s, err := b.Put("a/b", 5, aNonce(200), "a secret"); word.Hex(s) != newest || err != api.OK {
		t.Errorf("P15.3 Put: %x, %v, want %s", s, err, newest)
	}
	s, _ := word.Unhex(first)
	if text, err := b.Get("a/b", 5, s); text != "a secret" || err != api.OK {
		t.Errorf("P15.3 Get: %q, %v", text, err)
	}
	for epoch := 1; epoch < 64; epoch += 3 {
		is(t, "P15.3 Retire", b.Retire(uint32(epoch), aNonce(100+epoch)), api.OK)
		all = append(all, b.Header())
	}
	const want = "a05bf4045cd848672f0a5fdee9763ad93a4008ebdcd0818cc06cbabd1e6398a5"
	if sum := word.Hex(sha.Of(all...)); sum != want {
		t.Errorf("P15.3 the headers of a known row: the sum %s, want %s", sum, want)
	}
	if text, err := b.Get("a/b", 5, s); text != "" || err != api.ErrEpoch {
		t.Errorf("P15.3 Get of what was put by a retired key: %q, %v", text, err)
	}
}

// TestBegin: by as many texts as may be, it has the shares and the header that the chapter's words make.
func TestBegin(t *testing.T) {
	for n := 1; n <= 16; n++ {
		for i, root := range []string{aKey(n), zeros(32), ones(32)} {
			b := New()
			shares, err := b.Begin(root, aKey(50+n), aNonce(n), someTexts(n-1)...)
			if want := sharesBy(root, someTexts(n-1)); err != api.OK || !slices.Equal(shares, want) {
				t.Errorf("P15.1 Begin by %d texts: %x, %v, want %x", n-1, shares, err, want)
			}
			tells(t, "P15.1 Begin", b, openAs(headerBy(n, root, aNonce(n), row{1, aKey(50 + n)}), rowsOf(1)...))
			holds(t, "P15.1 Begin "+strconv.Itoa(i), b, row{1, aKey(50 + n)})
		}
	}
}

// TestBeginNoList: a list that is nil, and one without elements, are the same.
func TestBeginNoList(t *testing.T) {
	for _, l := range [][]string{nil, {}} {
		b, shares := begun(t, aKey(1), aKey(2), aNonce(3), l...)
		if !slices.Equal(shares, []string{"\x01\x01" + aKey(1)}) {
			t.Errorf("P15.1 Begin by no text: %x", shares)
		}
		seals(t, "P15.1 Begin by no text", b)
		opens(t, "P15.2 the only share", b, shares...)
	}
}

// TestBeginWrong: what is wrong begins nothing, and what is right begins behind it.
func TestBeginWrong(t *testing.T) {
	b := New()
	wrong := func(about, root, key, nonce string, l ...string) {
		t.Helper()
		if shares, err := b.Begin(root, key, nonce, l...); len(shares) != 0 || err != api.ErrArg {
			t.Errorf("P15.1 Begin of %s, by %d, %d and %d bytes and %d texts: %d shares, %v, want ErrArg", about, len(root), len(key), len(nonce), len(l), len(shares), err)
		}
		tells(t, "P15.1 Begin of "+about, b, told{})
	}
	for _, s := range append(wrongSizes(32), pattern(most, 0)) {
		wrong("another root", s, aKey(2), aNonce(3))
		wrong("another root, and a text as long", s, aKey(2), aNonce(3), s)
		wrong("another root, and a text", s, aKey(2), aNonce(3), someTexts(1)...)
		wrong("another key", aKey(1), s, aNonce(3), someTexts(1)...)
		wrong("another root and key", s, s, aNonce(3))
		wrong("another text", aKey(1), aKey(2), aNonce(3), s)
	}
	for _, s := range append(wrongSizes(12), pattern(most, 0)) {
		wrong("another nonce", aKey(1), aKey(2), s, someTexts(2)...)
		wrong("another nonce", aKey(1), aKey(2), s)
	}
	for _, n := range []int{16, 17, 18, 32, 255, 256, 257, 271, 272} {
		wrong("too many texts", aKey(1), aKey(2), aNonce(3), someTexts(n)...)
	}
	for n := 1; n < 16; n++ {
		for at := range n {
			l := someTexts(n)
			l[at] = l[at][1:]
			wrong("a text that is shorter", aKey(1), aKey(2), aNonce(3), l...)
			l[at] += "ab"
			wrong("a text that is longer", aKey(1), aKey(2), aNonce(3), l...)
		}
	}
	shares, err := b.Begin(aKey(1), aKey(2), aNonce(3), someTexts(15)...)
	if len(shares) != 16 || err != api.OK {
		t.Errorf("P15.1 Begin behind what was wrong: %d shares, %v", len(shares), err)
	}
	holds(t, "P15.1 Begin behind what was wrong", b, row{1, aKey(2)})
}

// TestBeginArguments: what is handed in, and what is handed out, is nobody else's.
func TestBeginArguments(t *testing.T) {
	l := someTexts(2)
	b, shares := begun(t, aKey(1), aKey(2), aNonce(3), l...)
	if !slices.Equal(l, someTexts(2)) {
		t.Errorf("R5 Begin altered its texts: %x", l)
	}
	clear(l)
	mine := slices.Clone(shares)
	clear(shares)
	tells(t, "R5 lists that are cleared", b, openAs(headerBy(3, aKey(1), aNonce(3), row{1, aKey(2)}), rowsOf(1)...))
	seals(t, "R5 lists that are cleared", b)
	opens(t, "R5 lists that are cleared", b, mine...)
}

// TestBegunTwice: what is begun, or loaded, is neither begun nor loaded again, open or sealed.
func TestBegunTwice(t *testing.T) {
	b, shares := begun(t, aKey(1), aKey(2), aNonce(3), someTexts(2)...)
	header := b.Header()
	refuses(t, "P15.1 begun", b, api.ErrState, begins(), loads())
	holds(t, "P15.1 begun", b, row{1, aKey(2)})
	rotates(t, "P15.1 rotated", b, aKey(4), aNonce(5), 2, api.OK)
	refuses(t, "P15.1 begun, and rotated", b, api.ErrState, begins(), loads())
	seals(t, "P15.1 begun", b)
	refuses(t, "P15.1 begun, and sealed", b, api.ErrState, begins(), loads())
	other := loaded(t, header)
	refuses(t, "P15.1 loaded", other, api.ErrState, begins(), loads())
	for _, x := range []*Barrier{b, other} {
		comes(t, "P15.1 some shares", x, shares[:2]...)
		refuses(t, "P15.1 sealed, with some shares", x, api.ErrState, begins(), loads())
		opens(t, "P15.1 sealed, and open", x, shares[2])
		refuses(t, "P15.1 open again", x, api.ErrState, begins(), loads())
	}
	holds(t, "P15.1 begun", b, row{1, aKey(2)}, row{2, aKey(4)})
	holds(t, "P15.1 loaded", other, row{1, aKey(2)})
}

// loadsNot says where what is no header is loaded.
func loadsNot(t *testing.T, about, header string) {
	t.Helper()
	b := New()
	if err := b.Load(header); err != api.ErrForm {
		t.Errorf("P15.1 Load of %s, %d bytes, %.80x: %v, want ErrForm", about, len(header), header, err)
	}
	tells(t, "P15.1 Load of "+about, b, told{})
	is(t, "P15.1 Load behind "+about, b.Load("\x01\x01"+zeros(48)), api.OK)
	tells(t, "P15.1 Load behind "+about, b, sealedAs("\x01\x01"+zeros(48), 0))
}

// TestLoadFirst: of all first bytes those from 1 to MaxShares may be, whatever the rest was closed for.
func TestLoadFirst(t *testing.T) {
	for _, rest := range []string{headerBy(3, aKey(1), aNonce(3), upTo(1)...)[1:], headerBy(16, aKey(1), aNonce(3), upTo(64)...)[1:], "\x01" + zeros(48), "\x01" + ones(48)} {
		for n := range 256 {
			header := string([]byte{byte(n)}) + rest
			if n >= 1 && n <= 16 {
				loaded(t, header)
			} else {
				loadsNot(t, "another first byte", header)
			}
		}
	}
}

// TestLoadRest: the rest is one of which seal.Epoch has no error.
func TestLoadRest(t *testing.T) {
	loadsNot(t, "no byte", "")
	for _, first := range []string{"\x01", "\x02", "\x10"} {
		loadsNot(t, "a byte alone", first)
		for n := range 120 {
			rest := "\x01" + pattern(n, 3)
			if n >= 48 {
				loaded(t, first+rest)
			} else {
				loadsNot(t, "a rest that is too short", first+rest)
			}
		}
		loaded(t, first+"\x01"+pattern(48+most, 0))
		loadsNot(t, "a rest that is too long", first+"\x01"+pattern(48+most+1, 0))
		loadsNot(t, "a rest that is too long", first+"\x01"+pattern(2*most, 0))
		for n := range 256 {
			if n != 1 {
				loadsNot(t, "a rest that begins otherwise", first+string([]byte{byte(n)})+pattern(80, 0))
				loadsNot(t, "a rest that begins otherwise", first+string([]byte{byte(n)})+zeros(48))
			}
		}
	}
	// Both faults at once, and a header without its first byte.
	loadsNot(t, "another first byte, and a short rest", "\x00\x01")
	loadsNot(t, "another first byte, and another rest", "\x11\x02"+pattern(80, 0))
	loadsNot(t, "no first byte", headerBy(1, aKey(1), aNonce(3), upTo(1)...)[1:21])
	loadsNot(t, "a byte ahead", "\x01"+headerBy(3, aKey(1), aNonce(3), upTo(1)...))
}

// TestLoadEpoch: of which epoch the rest is does not matter till the shares have come.
func TestLoadEpoch(t *testing.T) {
	for _, epoch := range []uint32{0, 1, 2, 256, 1 << 31, greatest} {
		s := "\x01" + closing{row{epoch, aKey(1)}, "barrier", 1, aNonce(3), bytesOf(upTo(2))}.byRule()
		b := loaded(t, s)
		if epoch == 1 {
			opens(t, "P15.2 of epoch 1", b, headed(1, 1, aKey(1)))
		} else {
			opensNot(t, "P15.2 of another epoch", b, headed(1, 1, aKey(1)))
		}
	}
}

// TestHeaderState: what they are behind each call that there is.
func TestHeaderState(t *testing.T) {
	b := New()
	tells(t, "P15.1 ahead of Begin", b, told{})
	if _, err := b.Begin(aKey(1), aKey(2), aNonce(3), someTexts(1)...); err != api.OK {
		t.Fatalf("P15.1 Begin: %v", err)
	}
	shares := sharesBy(aKey(1), someTexts(1))
	rows := []row{{1, aKey(2)}, {2, aKey(5)}}
	first := headerBy(2, aKey(1), aNonce(3), rows[:1]...)
	tells(t, "P15.1 behind Begin", b, openAs(first, rows[:1]...))
	seals(t, "P15.1 behind Seal", b)
	opens(t, "P15.1 behind Unseal", b, shares...)
	tells(t, "P15.1 behind Unseal", b, openAs(first, rows[:1]...))
	rotates(t, "P15.1 Rotate", b, aKey(5), aNonce(6), 2, api.OK)
	second := headerBy(2, aKey(1), aNonce(6), rows...)
	tells(t, "P15.1 behind Rotate", b, openAs(second, rows...))
	seals(t, "P15.1 behind Seal", b)
	tells(t, "P15.1 behind Seal", b, sealedAs(second, 0))
	opens(t, "P15.1 behind Unseal", b, shares...)
	tells(t, "P15.1 behind Unseal", b, openAs(second, rows...))
	is(t, "P15.1 Retire", b.Retire(1, aNonce(7)), api.OK)
	third := headerBy(2, aKey(1), aNonce(7), rows[1:]...)
	tells(t, "P15.1 behind Retire", b, openAs(third, rows[1:]...))
	seals(t, "P15.1 behind Seal", b)
	tells(t, "P15.1 behind Seal", b, sealedAs(third, 0))
	tells(t, "P15.1 behind Load", loaded(t, third), sealedAs(third, 0))
}

// P15.2

// orders are all orders of the places from 0 to n - 1.
func orders(n int) [][]int {
	if n == 0 {
		return [][]int{nil}
	}
	var l [][]int
	for _, order := range orders(n - 1) {
		for at := range n {
			l = append(l, slices.Insert(slices.Clone(order), at, n-1))
		}
	}
	return l
}

// inOrder are the shares in an order.
func inOrder(shares []string, order []int) []string {
	var l []string
	for _, at := range order {
		l = append(l, shares[at])
	}
	return l
}

// TestUnsealOrders: all shares, in whatever order they come, open it, and it is the last one that does.
func TestUnsealOrders(t *testing.T) {
	for n := 1; n <= 5; n++ {
		b, shares := begun(t, aKey(n), aKey(2), aNonce(3), someTexts(n-1)...)
		for _, order := range orders(n) {
			seals(t, "P15.2", b)
			opens(t, "P15.2 in each order", b, inOrder(shares, order)...)
			holds(t, "P15.2 in each order", b, row{1, aKey(2)})
		}
	}
	for n := 6; n <= 16; n++ {
		b, shares := begun(t, aKey(n), aKey(2), aNonce(3), someTexts(n-1)...)
		for range 2 {
			for at := range n {
				seals(t, "P15.2", b)
				opens(t, "P15.2 from each one on", b, slices.Concat(shares[at:], shares[:at])...)
			}
			slices.Reverse(shares)
		}
		holds(t, "P15.2 from each one on", b, row{1, aKey(2)})
	}
}

// TestUnsealAllButOne: without one of them, whichever it is, it stays sealed, and opens with that.
func TestUnsealAllButOne(t *testing.T) {
	for n := 2; n <= 16; n++ {
		b, shares := begun(t, aKey(n), aKey(2), aNonce(3), someTexts(n-1)...)
		header := b.Header()
		for at := range n {
			seals(t, "P15.2", b)
			rest := slices.Delete(slices.Clone(shares), at, at+1)
			comes(t, "P15.2 all but one", b, rest...)
			for _, s := range rest {
				unseals(t, "P15.2 all but one", b, s, false, api.ErrHave)
			}
			tells(t, "P15.2 all but one", b, sealedAs(header, n-1))
			refuses(t, "P15.2 all but one", b, api.ErrSealed, changes(), uses()[:20])
			opens(t, "P15.2 the last one", b, shares[at])
		}
	}
}

// noShares are texts that are no share's bytes.
func noShares() []string {
	l := []string{"", "\x01", "\x01\x03", headed(1, 3, ""), headed(1, 3, pattern(65, 0)), headed(1, 3, pattern(256+32, 0)), headed(1, 3, pattern(most, 0)), aKey(1)}
	for _, s := range []string{aKey(1), "a", pattern(64, 0)} {
		l = append(l, headed(0, 3, s), headed(4, 3, s), headed(255, 3, s), headed(1, 0, s), headed(0, 0, s), headed(1, 17, s), headed(17, 17, s), headed(3, 255, s))
	}
	return l
}

// otherShares are shares that are none of a header with so many.
func otherShares(n int) []string {
	var l []string
	for m := 1; m <= 16; m++ {
		if m != n {
			l = append(l, headed(1, m, aKey(1)), headed(m, m, aKey(1)))
		}
	}
	for size := 1; size <= 64; size++ {
		if size != 32 {
			l = append(l, headed(1, n, pattern(size, 0)), headed(n, n, pattern(size, 0)))
		}
	}
	return append(l, headed(1, n%16+1, "a"), headed(1, n%16+1, pattern(64, 0)))
}

// TestUnsealRefused: what is no share of the root is not kept, whether it comes first, or beside others; and those are kept.
func TestUnsealRefused(t *testing.T) {
	for _, n := range []int{1, 2, 3, 15, 16} {
		b, shares := begun(t, aKey(n), aKey(2), aNonce(3), someTexts(n-1)...)
		header := b.Header()
		seals(t, "P15.2", b)
		for have := range n {
			for _, s := range noShares() {
				unseals(t, "P15.2 no share", b, s, false, api.ErrForm)
			}
			for _, s := range otherShares(n) {
				unseals(t, "P15.2 another one's share", b, s, false, api.ErrOther)
				tells(t, "P15.2 another one's share", b, sealedAs(header, have))
			}
			tells(t, "P15.2 what is refused", b, sealedAs(header, have))
			if have < n-1 {
				comes(t, "P15.2 beside what is refused", b, shares[have])
			}
		}
		opens(t, "P15.2 behind what was refused", b, shares[n-1])
		holds(t, "P15.2 behind what was refused", b, row{1, aKey(2)})
	}
}

// TestUnsealHave: a share whose place has come is told, with the same bytes and with others; the first one stays.
func TestUnsealHave(t *testing.T) {
	b, shares := begun(t, aKey(1), aKey(2), aNonce(3), someTexts(3)...)
	header := b.Header()
	for _, order := range orders(4) {
		seals(t, "P15.2", b)
		for i, at := range order[:3] {
			comes(t, "P15.2 once", b, shares[at])
			for _, was := range order[:i+1] {
				unseals(t, "P15.2 twice", b, shares[was], false, api.ErrHave)
				unseals(t, "P15.2 another one of its place", b, with(shares[was], 9, 1), false, api.ErrHave)
				unseals(t, "P15.2 another one of its place", b, headed(was+1, 4, zeros(32)), false, api.ErrHave)
			}
			tells(t, "P15.2 twice", b, sealedAs(header, i+1))
		}
		opens(t, "P15.2 behind what came twice", b, shares[order[3]])
	}
}

// TestUnsealErrors: of several faults of a share it is the one that the chapter names first.
func TestUnsealErrors(t *testing.T) {
	b, shares := begun(t, aKey(1), aKey(2), aNonce(3), someTexts(2)...)
	seals(t, "P15.2", b)
	for have := range 3 {
		// No share's bytes, of another n and another length, of a place that came.
		unseals(t, "P15.2 no share, of another n", b, headed(0, 4, aKey(1)), false, api.ErrForm)
		unseals(t, "P15.2 no share, of another n", b, headed(1, 17, aKey(1)), false, api.ErrForm)
		unseals(t, "P15.2 no share, of another length", b, headed(1, 3, ""), false, api.ErrForm)
		unseals(t, "P15.2 no share, of another length", b, headed(1, 3, pattern(65, 0)), false, api.ErrForm)
		unseals(t, "P15.2 no share, of both", b, headed(9, 4, "a"), false, api.ErrForm)
		for place := 1; place <= 3; place++ {
			unseals(t, "P15.2 of another n, ahead of its place", b, headed(place, 4, aKey(1)), false, api.ErrOther)
			unseals(t, "P15.2 of another length, ahead of its place", b, headed(place, 3, pattern(31, 0)), false, api.ErrOther)
			unseals(t, "P15.2 of another length, ahead of its place", b, headed(place, 3, pattern(33, 0)), false, api.ErrOther)
			unseals(t, "P15.2 of both, ahead of its place", b, headed(place, 5, "a"), false, api.ErrOther)
		}
		if have < 2 {
			comes(t, "P15.2", b, shares[have])
		}
	}
	opens(t, "P15.2", b, shares[2])
	refuses(t, "P15.2 open", b, api.ErrState, unsealings())
}

// TestUnsealAnotherByte: if of all shares one has another byte, wherever, all have to come again.
func TestUnsealAnotherByte(t *testing.T) {
	for n := 1; n <= 3; n++ {
		b, shares := begun(t, aKey(1), aKey(2), aNonce(3), someTexts(n-1)...)
		for wrong := range n {
			for at := 2; at < 34; at++ {
				for by := 1; by < 256; by <<= 1 {
					seals(t, "P15.2", b)
					l := slices.Clone(shares)
					l[wrong] = with(l[wrong], at, byte(by))
					opensNot(t, "P15.2 another byte", b, l...)
					refuses(t, "P15.2 another byte", b, api.ErrSealed, changes()[:6])
					opens(t, "P15.2 all again", b, shares...)
				}
			}
		}
		holds(t, "P15.2 all again", b, row{1, aKey(2)})
	}
}

// TestUnsealAgain: behind wrong ones the right ones alone do not do: each of them has to come once more; and wrong ones may come any number of times.
func TestUnsealAgain(t *testing.T) {
	b, shares := begun(t, aKey(1), aKey(2), aNonce(3), someTexts(3)...)
	header := b.Header()
	for _, order := range orders(4) {
		seals(t, "P15.2", b)
		l := inOrder(shares, order)
		for wrong := range l {
			bad := slices.Clone(l)
			bad[wrong] = with(bad[wrong], 33, 128)
			opensNot(t, "P15.2 one is wrong", b, bad...)
			// Those that were right have to come, too.
			unseals(t, "P15.2 the wrong one made right", b, l[wrong], false, api.OK)
			tells(t, "P15.2 the wrong one made right", b, sealedAs(header, 1))
			rest := slices.Delete(slices.Clone(l), wrong, wrong+1)
			rest[0] = with(rest[0], 2, 255)
			comes(t, "P15.2 another one is wrong", b, rest[:2]...)
			unseals(t, "P15.2 another one is wrong", b, rest[2], false, api.ErrTag)
			tells(t, "P15.2 another one is wrong", b, sealedAs(header, 0))
		}
		opens(t, "P15.2 all are right", b, l...)
	}
}

// TestUnsealTwoWrong: it is the secret that opens: two wrong shares that are it together do so.
func TestUnsealTwoWrong(t *testing.T) {
	b, shares := begun(t, aKey(1), aKey(2), aNonce(3), someTexts(2)...)
	seals(t, "P15.2", b)
	opens(t, "P15.2 other shares of the same root", b, with(shares[0], 5, 8), shares[1], with(shares[2], 5, 8))
	seals(t, "P15.2", b)
	opens(t, "P15.2 other shares of the same root", b, sharesBy(aKey(1), []string{zeros(32), ones(32)})...)
	holds(t, "P15.2 other shares of the same root", b, row{1, aKey(2)})
}

// TestUnsealOtherRoot: shares of another root, all or some, do not open.
func TestUnsealOtherRoot(t *testing.T) {
	for n := 1; n <= 4; n++ {
		b, shares := begun(t, aKey(1), aKey(2), aNonce(3), someTexts(n-1)...)
		for _, root := range []string{aKey(2), aKey(3), zeros(32), ones(32), with(aKey(1), 0, 1), with(aKey(1), 31, 1)} {
			other := sharesBy(root, someTexts(n-1))
			seals(t, "P15.2", b)
			opensNot(t, "P15.2 of another root", b, other...)
			opensNot(t, "P15.2 one of another root", b, slices.Concat(shares[:n-1], other[n-1:])...)
			slices.Reverse(other)
			opensNot(t, "P15.2 of another root", b, other...)
			opens(t, "P15.2 of its own root", b, shares...)
		}
	}
}

// TestUnsealNoRing: a header that its root opens, but whose text is no ring's bytes, is told as one that it does not open.
func TestUnsealNoRing(t *testing.T) {
	good := bytesOf(upTo(2))
	for _, text := range []string{
		"", "\x00", "\x01", "a", good[:len(good)-1], good + "\x00", "\x01" + good[1:], "\x03" + good[1:],
		bytesOf(rowsOf(0)), bytesOf(rowsOf(0, 1)), bytesOf(rowsOf(2, 1)), bytesOf(rowsOf(1, 1)), bytesOf(upTo(65)), aKey(1), pattern(most, 0),
	} {
		for n := 1; n <= 3; n++ {
			b := loaded(t, string([]byte{byte(n)})+closing{row{1, aKey(1)}, "barrier", uint64(n), aNonce(3), text}.byRule())
			for range 2 {
				opensNot(t, "P15.2 no ring's bytes", b, sharesBy(aKey(1), someTexts(n-1))...)
				refuses(t, "P15.2 no ring's bytes", b, api.ErrSealed, changes()[:8])
			}
		}
	}
}

// TestUnsealRing: whatever ring is in a header is the barrier's then.
func TestUnsealRing(t *testing.T) {
	for _, rows := range [][]row{upTo(1), upTo(2), upTo(63), upTo(64), rowsOf(2), rowsOf(5, 9), rowsOf(1, 256, 1<<24), rowsOf(3, greatest), {{7, aKey(90)}}, {{1, zeros(32)}, {2, ones(32)}}} {
		b, _ := ofRows(t, rows...)
		holds(t, "P15.2 a ring in a header", b, rows...)
	}
}

// TestUnsealOtherPlace: an envelope that was closed for another path, another version, or by another key does not open.
func TestUnsealOtherPlace(t *testing.T) {
	for n := 1; n <= 4; n++ {
		shares := sharesBy(aKey(1), someTexts(n-1))
		header := func(path string, version uint64) string {
			return string([]byte{byte(n)}) + closing{row{1, aKey(1)}, path, version, aNonce(3), bytesOf(upTo(2))}.byRule()
		}
		opens(t, "P15.2 its place", loaded(t, header("barrier", uint64(n))), shares...)
		for _, path := range []string{"", "barrie", "barrier/", "Barrier", "barriers", "barrier\x00"} {
			opensNot(t, "P15.2 another path", loaded(t, header(path, uint64(n))), shares...)
		}
		for _, version := range []uint64{0, uint64(n) - 1, uint64(n) + 1, uint64(n) + 256, uint64(n) << 56, math.MaxUint64} {
			opensNot(t, "P15.2 another version", loaded(t, header("barrier", version)), shares...)
		}
		// Another first byte is another version, too.
		for m := 1; m <= 16; m++ {
			b := loaded(t, string([]byte{byte(m)})+header("barrier", uint64(n))[1:])
			if m != n {
				opensNot(t, "P15.2 another first byte", b, sharesBy(aKey(1), someTexts(m-1))...)
			} else {
				opens(t, "P15.2 the first byte", b, shares...)
			}
		}
	}
}

// TestUnsealHeaderByte: whichever byte of a header is another one, it does not open.
func TestUnsealHeaderByte(t *testing.T) {
	good := headerBy(2, aKey(1), aNonce(3), upTo(1)...)
	shares := sharesBy(aKey(1), someTexts(1))
	opens(t, "P15.2 each byte its own", loaded(t, good), shares...)
	for at := 2; at < len(good); at++ {
		for by := 1; by < 256; by++ {
			opensNot(t, "P15.2 another byte of the header", loaded(t, with(good, at, byte(by))), shares...)
		}
	}
	for n := 50; n < len(good); n++ {
		opensNot(t, "P15.2 a header that is cut", loaded(t, good[:n]), shares...)
	}
	for _, more := range []string{"\x00", "\x01", good, zeros(36)} {
		opensNot(t, "P15.2 a header with more bytes", loaded(t, good+more), shares...)
	}
}

// TestHave: how many shares have come, at each time.
func TestHave(t *testing.T) {
	for n := 1; n <= 16; n++ {
		b := New()
		tells(t, "P15.2 Have of none", b, told{})
		shares, err := b.Begin(aKey(1), aKey(2), aNonce(3), someTexts(n-1)...)
		is(t, "P15.1 Begin", err, api.OK)
		header := b.Header()
		open := openAs(headerBy(n, aKey(1), aNonce(3), row{1, aKey(2)}), rowsOf(1)...)
		tells(t, "P15.2 Have behind Begin", b, open)
		for range 2 {
			seals(t, "P15.2 Have behind Seal", b)
			opensNot(t, "P15.2 Have", b, sharesBy(aKey(3), someTexts(n-1))...)
			tells(t, "P15.2 Have behind a failed opening", b, sealedAs(header, 0))
			opens(t, "P15.2 Have behind each", b, shares...)
			tells(t, "P15.2 Have, open", b, open)
		}
		// The shares that opened it do not count once it is sealed again: each of them may come, and has to.
		seals(t, "P15.2 Have behind Seal", b)
		if n > 1 {
			comes(t, "P15.2 Have behind Seal", b, shares[n-1])
			tells(t, "P15.2 Have behind Seal and a share", b, sealedAs(header, 1))
		}
	}
}

func TestSeal(t *testing.T) {
	b, shares := begun(t, aKey(1), aKey(2), aNonce(3), someTexts(1)...)
	header := b.Header()
	s := puts(t, "P15.3", b, closing{row{1, aKey(2)}, "a", 1, aNonce(4), "text"})
	for range 3 {
		seals(t, "P15.2 Seal", b)
		for have := range 2 {
			refuses(t, "P15.2 Seal of a sealed one", b, api.ErrState, sealings(), begins(), loads())
			refuses(t, "P15.3 sealed", b, api.ErrSealed, changes(), uses())
			if text, err := b.Get("a", 1, s); text != "" || err != api.ErrSealed {
				t.Errorf("P15.4 Get, sealed: %q, %v", text, err)
			}
			tells(t, "P15.2 sealed", b, sealedAs(header, have))
			if have == 0 {
				comes(t, "P15.2", b, shares[1])
			}
		}
		opens(t, "P15.2", b, shares[0])
		if text, err := b.Get("a", 1, s); text != "text" || err != api.OK {
			t.Errorf("P15.4 Get, open again: %q, %v", text, err)
		}
	}
	refuses(t, "P15.2 Seal of one that is not begun", New(), api.ErrState, sealings())
	refuses(t, "P15.2 Seal of one that was loaded", loaded(t, header), api.ErrState, sealings())
}

// P15.3

// TestRotate: up to MaxEpochs keys each has the next epoch, and the header is made anew by the nonce that is handed in.
func TestRotate(t *testing.T) {
	for _, n := range []int{1, 3, 16} {
		rows := upTo(1)
		b, shares := begun(t, aKey(70), rows[0].key, aNonce(1), someTexts(n-1)...)
		for epoch := uint32(2); epoch <= 64; epoch++ {
			key, nonce := aKey(int(epoch)), aNonce(int(3*epoch))
			rotates(t, "P15.3 Rotate", b, key, nonce, epoch, api.OK)
			rows = append(rows, row{epoch, key})
			tells(t, "P15.3 Rotate", b, openAs(headerBy(n, aKey(70), nonce, rows...), rows...))
			puts(t, "P15.3 Rotate", b, closing{rows[len(rows)-1], "a/b", 3, aNonce(5), "text"})
		}
		holds(t, "P15.3 Rotate", b, rows...)
		other := loaded(t, b.Header())
		opens(t, "P15.3 a header made anew", other, shares...)
		holds(t, "P15.3 a header made anew", other, rows...)
	}
}

// TestRotateWrong: what may not be leaves the ring, and the header, alone.
func TestRotateWrong(t *testing.T) {
	for _, n := range []int{1, 2, 63, 64} {
		b, _ := ofRows(t, upTo(n)...)
		was := toldBy(b)
		for _, nonce := range append(wrongSizes(12), pattern(most, 0)) {
			rotates(t, "P15.3 another nonce", b, aKey(80), nonce, 0, api.ErrArg)
			rotates(t, "P15.3 another nonce and key", b, pattern(31, 0), nonce, 0, api.ErrArg)
		}
		for _, key := range append(wrongSizes(32), pattern(most, 0)) {
			rotates(t, "P15.3 another key", b, key, aNonce(3), 0, api.ErrArg)
		}
		tells(t, "P15.3 Rotate of what may not be", b, was)
		holds(t, "P15.3 Rotate of what may not be", b, upTo(n)...)
	}
}

// TestRotateFull: with MaxEpochs keys, and behind the last epoch, there is no other one.
func TestRotateFull(t *testing.T) {
	for _, rows := range [][]row{upTo(64), rowsOf(greatest), rowsOf(3, greatest)} {
		b, shares := ofRows(t, rows...)
		was := toldBy(b)
		rotates(t, "P15.3 full", b, aKey(80), aNonce(3), 0, api.ErrFull)
		rotates(t, "P15.3 full, and another nonce", b, aKey(80), pattern(11, 0), 0, api.ErrArg)
		rotates(t, "P15.3 full, and another nonce", b, aKey(80), "", 0, api.ErrArg)
		rotates(t, "P15.3 full, and another key", b, pattern(33, 0), aNonce(3), 0, api.ErrArg)
		rotates(t, "P15.3 full, and both", b, "", pattern(13, 0), 0, api.ErrArg)
		tells(t, "P15.3 full", b, was)
		seals(t, "P15.3 full", b)
		opens(t, "P15.3 full", b, shares...)
		holds(t, "P15.3 full", b, rows...)
	}
	// With one key less there is room again, and the epochs go on.
	b, _ := ofRows(t, upTo(64)...)
	is(t, "P15.3 Retire of a full one", b.Retire(9, aNonce(2)), api.OK)
	rotates(t, "P15.3 not full", b, aKey(65), aNonce(3), 65, api.OK)
	rows := slices.Delete(upTo(65), 8, 9)
	tells(t, "P15.3 not full", b, openAs(headerBy(2, aKey(90), aNonce(3), rows...), rows...))
	rotates(t, "P15.3 full again", b, aKey(80), aNonce(4), 0, api.ErrFull)
	holds(t, "P15.3 full again", b, rows...)
	c, _ := ofRows(t, rowsOf(greatest-1)...)
	rotates(t, "P15.3 to the last epoch", c, aKey(255), aNonce(3), greatest, api.OK)
	holds(t, "P15.3 the last epoch", c, rowsOf(greatest-1, greatest)...)
}

// TestRetire: each key but the newest one may go, and the header is made anew by the nonce that is handed in.
func TestRetire(t *testing.T) {
	for gone := range 5 {
		b, shares := ofRows(t, upTo(6)...)
		is(t, "P15.3 Retire", b.Retire(uint32(gone+1), aNonce(40+gone)), api.OK)
		rows := slices.Delete(upTo(6), gone, gone+1)
		header := headerBy(2, aKey(90), aNonce(40+gone), rows...)
		tells(t, "P15.3 Retire", b, openAs(header, rows...))
		gets(t, "P15.3 Retire", b, closing{upTo(6)[gone], "a/b", 7, aNonce(9), "a text"}, "", api.ErrEpoch)
		is(t, "P15.3 Retire again", b.Retire(uint32(gone+1), aNonce(50)), api.ErrNone)
		tells(t, "P15.3 Retire again", b, openAs(header, rows...))
		holds(t, "P15.3 Retire", b, rows...)
		seals(t, "P15.3 Retire", b)
		opens(t, "P15.3 Retire", b, shares...)
		holds(t, "P15.3 Retire", b, rows...)
		gets(t, "P15.3 Retire", b, closing{upTo(6)[gone], "a/b", 7, aNonce(9), "a text"}, "", api.ErrEpoch)
	}
}

// TestRetireWrong: what may not be leaves the ring, and the header, alone.
func TestRetireWrong(t *testing.T) {
	for _, rows := range [][]row{upTo(1), upTo(5), upTo(64), rowsOf(3, 9, 256), rowsOf(2, greatest)} {
		b, _ := ofRows(t, rows...)
		was := toldBy(b)
		has := epochsOf(rows)
		newest := has[len(has)-1]
		is(t, "P15.3 Retire of the newest one", b.Retire(newest, aNonce(3)), api.ErrArg)
		for _, epoch := range []uint32{0, 1, 2, 4, 6, 8, 65, 255, 257, 1 << 24, 1 << 31, greatest - 1, greatest} {
			if !slices.Contains(has, epoch) {
				is(t, "P15.3 Retire of none", b.Retire(epoch, aNonce(3)), api.ErrNone)
			}
			for _, nonce := range append(wrongSizes(12), pattern(most, 0)) {
				is(t, "P15.3 Retire by another nonce", b.Retire(epoch, nonce), api.ErrArg)
			}
		}
		tells(t, "P15.3 Retire of what may not be", b, was)
		holds(t, "P15.3 Retire of what may not be", b, rows...)
	}
}

// TestSameNonce: the same nonce may be handed in again: of another ring it is another header, which is that ring's.
func TestSameNonce(t *testing.T) {
	b, shares := begun(t, aKey(90), aKey(1), aNonce(1), someTexts(1)...)
	rotates(t, "P15.3 the same nonce", b, aKey(2), aNonce(1), 2, api.OK)
	tells(t, "P15.3 the same nonce", b, openAs(headerBy(2, aKey(90), aNonce(1), upTo(2)...), upTo(2)...))
	is(t, "P15.3 the same nonce", b.Retire(1, aNonce(1)), api.OK)
	tells(t, "P15.3 the same nonce", b, openAs(headerBy(2, aKey(90), aNonce(1), upTo(2)[1:]...), upTo(2)[1:]...))
	seals(t, "P15.3 the same nonce", b)
	opens(t, "P15.3 the same nonce", b, shares...)
}

// TestPut: what seal.Close tells by the ring, Put does, its errors in their order.
func TestPut(t *testing.T) {
	b, _ := ofRows(t, rowsOf(3, 300)...)
	was := toldBy(b)
	newest := rowsOf(300)[0]
	long := pattern(most+1, 0)
	for _, path := range []string{"", "a", "a/b", "barrier", zeros(9), pattern(300, 0)} {
		for _, text := range []string{"", "a", zeros(32), pattern(100, 7)} {
			for _, version := range []uint64{0, 1, 2, 1 << 40, math.MaxUint64} {
				puts(t, "P15.3 Put", b, closing{newest, path, version, aNonce(7), text})
			}
		}
	}
	puts(t, "P15.3 Put of the most", b, closing{newest, pattern(most, 1), 5, aNonce(7), pattern(most, 2)})
	putsNot := func(path, nonce, text string, want api.Errno) {
		t.Helper()
		if s, err := b.Put(path, 1, nonce, text); s != "" || err != want {
			t.Errorf("P15.3 Put of %d, %d, %d bytes: %.40x, %v, want %v", len(path), len(nonce), len(text), s, err, want)
		}
	}
	putsNot(long, aNonce(1), "text", api.ErrLong)
	putsNot("a", aNonce(1), long, api.ErrLong)
	putsNot(long, aNonce(1), long, api.ErrLong)
	for _, nonce := range append(wrongSizes(12), long) {
		putsNot("a", nonce, "text", api.ErrArg)
		putsNot(long, nonce, "text", api.ErrArg)
		putsNot("a", nonce, long, api.ErrArg)
	}
	tells(t, "P15.3 Put", b, was)
}

// TestGet: what seal.Open tells by the ring, Get does, its errors in their order.
func TestGet(t *testing.T) {
	rows := rowsOf(3, 300)
	b, _ := ofRows(t, rows...)
	was := toldBy(b)
	long := pattern(most+1, 0)
	getsNot := func(about, path string, version uint64, s string, want api.Errno) {
		t.Helper()
		if text, err := b.Get(path, version, s); text != "" || err != want {
			t.Errorf("P15.3 Get of %s, %.80x: %.40x, %v, want %v", about, s, text, err, want)
		}
	}
	for _, x := range rows {
		for _, text := range []string{"", "a", pattern(100, 7), pattern(most, 3)} {
			c := closing{x, "a/b", 9, aNonce(7), text}
			gets(t, "P15.3 Get", b, c, text, api.OK)
			s := c.byRule()
			getsNot("another path", "a/c", 9, s, api.ErrTag)
			getsNot("another version", "a/b", 8, s, api.ErrTag)
			getsNot("another tag", "a/b", 9, with(s, len(s)-1, 1), api.ErrTag)
			getsNot("another nonce", "a/b", 9, with(s, 10, 1), api.ErrTag)
			getsNot("another epoch", "a/b", 9, with(s, 3, 16), api.ErrEpoch)
			getsNot("another epoch and tag", "a/c", 9, with(s, 3, 16), api.ErrEpoch)
			getsNot("a long path", long, 9, s, api.ErrLong)
			getsNot("a long path, another epoch", long, 9, with(s, 3, 16), api.ErrLong)
			getsNot("another first byte", "a/b", 9, with(s, 0, 2), api.ErrForm)
			getsNot("another first byte, a long path", long, 9, with(s, 0, 2), api.ErrForm)
			getsNot("too few bytes", "a/b", 9, s[:48], api.ErrForm)
		}
	}
	for _, s := range []string{"", "\x01", long, "\x01" + pattern(most+49, 0)} {
		getsNot("no envelope", "a/b", 9, s, api.ErrForm)
		getsNot("no envelope, a long path", long, 9, s, api.ErrForm)
	}
	// The ring's own envelope is closed by the root, not by the ring.
	getsNot("the header's", "barrier", 2, b.Header()[1:], api.ErrEpoch)
	tells(t, "P15.3 Get", b, was)
}

// TestHeaderIsNotGot: what is in the header nobody gets, also where an epoch of the ring has its number.
func TestHeaderIsNotGot(t *testing.T) {
	b, _ := begun(t, aKey(1), aKey(2), aNonce(3))
	if text, err := b.Get("barrier", 1, b.Header()[1:]); text != "" || err != api.ErrTag {
		t.Errorf("P15.3 Get of the header: %x, %v, want ErrTag", text, err)
	}
	// Nor is what is put for that path a header's.
	s, err := b.Put("barrier", 1, aNonce(4), bytesOf(upTo(1)))
	is(t, "P15.3 Put for the header's path", err, api.OK)
	opensNot(t, "P15.2 what was put is no header", loaded(t, "\x01"+s), headed(1, 1, aKey(1)))
}

// TestEpochs: each list of them is its own.
func TestEpochs(t *testing.T) {
	b, shares := ofRows(t, upTo(9)...)
	for range 20 {
		l, other := b.Epochs(), b.Epochs()
		if !slices.Equal(l, epochsOf(upTo(9))) {
			t.Errorf("P15.3 Epochs: %d", l)
		}
		clear(l)
		_ = append(l[:1], 7, 8)
		if !slices.Equal(other, epochsOf(upTo(9))) {
			t.Errorf("R5 two lists of Epochs have memory in common: %d", other)
		}
	}
	seals(t, "P15.3 Epochs", b)
	for _, s := range append(shares[:1:1], shares[0]) {
		if l := b.Epochs(); len(l) != 0 {
			t.Errorf("P15.3 Epochs, sealed: %d", l)
		}
		_, _ = b.Unseal(s)
	}
	if l := New().Epochs(); len(l) != 0 {
		t.Errorf("P15.3 Epochs, not begun: %d", l)
	}
	opens(t, "P15.3 Epochs", b, shares[1])
	holds(t, "P15.3 Epochs", b, upTo(9)...)
}

// TestReadByLayers: what layers 6, 13 and 14 read of a barrier's shares and header is what the chapter says.
func TestReadByLayers(t *testing.T) {
	b, _ := begun(t, aKey(1), aKey(2), aNonce(3), someTexts(4)...)
	rotates(t, "P15.3", b, aKey(3), aNonce(4), 2, api.OK)
	root, _ := keyring.New(aKey(1))
	s, err := seal.Open(root, "barrier", 5, b.Header()[1:])
	is(t, "P15.1 the header opens by layer 14", err, api.OK)
	r, err := keyring.Read(s)
	is(t, "P15.1 the header is read by layer 13", err, api.OK)
	if !slices.Equal(r.Epochs(), []uint32{1, 2}) || b.Header()[0] != 5 {
		t.Errorf("P15.1 the header: %d shares, the epochs %d", b.Header()[0], r.Epochs())
	}
}

// P15.4

// carry takes a barrier away, and answers one that is open as it was: itself sealed and unsealed, or another one of its header.
func carry(t *testing.T, b *Barrier, shares []string, way int) *Barrier {
	t.Helper()
	about := "P15.4 way " + strconv.Itoa(way)
	switch way {
	case 0:
		seals(t, about, b)
	case 1:
		b = loaded(t, b.Header())
	case 2:
		seals(t, about, b)
		b = loaded(t, b.Header())
	case 3:
		seals(t, about, b)
		opensNot(t, about, b, sharesBy(aKey(99), someTexts(len(shares)-1))...)
	default:
		return b
	}
	l := slices.Clone(shares)
	if way%2 == 1 {
		slices.Reverse(l)
	}
	opens(t, about, b, l...)
	return b
}

// TestKept: what was put is got behind whatever came in between, till its epoch was retired.
func TestKept(t *testing.T) {
	for n := 1; n <= 4; n++ {
		rows := upTo(1)
		b, shares := begun(t, aKey(95), rows[0].key, aNonce(1), someTexts(n-1)...)
		var all []closing
		for i := range 90 {
			c := closing{rows[len(rows)-1], "a/" + strconv.Itoa(i), uint64(i), aNonce(i), pattern(i, i)}
			puts(t, "P15.4", b, c)
			all = append(all, c)
			b = carry(t, b, shares, i%5)
			switch next := rows[len(rows)-1].epoch + 1; i % 3 {
			case 0:
				rotates(t, "P15.4", b, aKey(int(next)), aNonce(i+1), next, api.OK)
				rows = append(rows, row{next, aKey(int(next))})
			case 1:
				if len(rows) > 4 {
					gone := i % 3
					is(t, "P15.4 Retire", b.Retire(rows[gone].epoch, aNonce(i+2)), api.OK)
					rows = slices.Delete(rows, gone, gone+1)
				}
			}
			b = carry(t, b, shares, (i+2)%5)
			for _, c := range all {
				if slices.Contains(rows, c.row) {
					gets(t, "P15.4 kept", b, c, c.text, api.OK)
				} else {
					gets(t, "P15.4 retired", b, c, "", api.ErrEpoch)
				}
			}
		}
		holds(t, "P15.4 in the end", b, rows...)
	}
}

// TestSealedNothing: sealed, whichever shares have come, nothing is got, and nothing put, nor ahead of what begins it.
func TestSealedNothing(t *testing.T) {
	for n := 1; n <= 4; n++ {
		b, shares := begun(t, aKey(1), aKey(2), aNonce(3), someTexts(n-1)...)
		c := closing{row{1, aKey(2)}, "a", 1, aNonce(4), "text"}
		puts(t, "P15.4", b, c)
		header := b.Header()
		gets(t, "P15.4 not begun", New(), c, "", api.ErrState)
		for _, x := range []*Barrier{b, loaded(t, header)} {
			if x == b {
				seals(t, "P15.4", b)
			}
			for have := range n {
				gets(t, "P15.4 sealed", x, c, "", api.ErrSealed)
				refuses(t, "P15.4 sealed", x, api.ErrSealed, uses(), changes())
				tells(t, "P15.4 sealed", x, sealedAs(header, have))
				if have < n-1 {
					comes(t, "P15.4", x, shares[have])
				}
			}
			unseals(t, "P15.4 a wrong last one", x, with(shares[n-1], 9, 1), false, api.ErrTag)
			gets(t, "P15.4 sealed", x, c, "", api.ErrSealed)
			refuses(t, "P15.4 sealed", x, api.ErrSealed, uses(), changes())
			opens(t, "P15.4", x, shares...)
			gets(t, "P15.4 open", x, c, "text", api.OK)
		}
	}
}

// TestApart: barriers of one header go on by themselves.
func TestApart(t *testing.T) {
	b, shares := begun(t, aKey(90), aKey(1), aNonce(1), someTexts(1)...)
	one, other := loaded(t, b.Header()), loaded(t, b.Header())
	comes(t, "P15.4 apart", one, shares[0])
	tells(t, "P15.4 apart", other, sealedAs(b.Header(), 0))
	opens(t, "P15.4 apart", one, shares[1])
	tells(t, "P15.4 apart", other, sealedAs(b.Header(), 0))
	opens(t, "P15.4 apart", other, shares...)
	rotates(t, "P15.4 apart", one, aKey(2), aNonce(2), 2, api.OK)
	rotates(t, "P15.4 apart", one, aKey(3), aNonce(3), 3, api.OK)
	rotates(t, "P15.4 apart", other, aKey(4), aNonce(4), 2, api.OK)
	is(t, "P15.4 apart", other.Retire(1, aNonce(5)), api.OK)
	seals(t, "P15.4 apart", b)
	holds(t, "P15.4 apart", one, upTo(3)...)
	holds(t, "P15.4 apart", other, row{2, aKey(4)})
	// The header of before is the ring of before.
	before := loaded(t, b.Header())
	opens(t, "P15.4 apart", before, shares...)
	holds(t, "P15.4 apart", before, upTo(1)...)
}

// TestExample: the chapter's.
func TestExample(t *testing.T) {
	b, shares := begun(t, aKey(1), aKey(2), aNonce(3), someTexts(2)...)
	if len(shares) != 3 {
		t.Fatalf("P15.1 the example: %d shares", len(shares))
	}
	for _, order := range orders(3) {
		is(t, "P15.2 Seal", b.Seal(), api.OK)
		l := inOrder(shares, order)
		unseals(t, "P15.2 the example", b, l[0], false, api.OK)
		unseals(t, "P15.2 the example", b, l[1], false, api.OK)
		unseals(t, "P15.2 the example", b, l[2], true, api.OK)
		if b.State() != api.BarOpen {
			t.Errorf("P15.2 the example: State %d", b.State())
		}
	}
}
