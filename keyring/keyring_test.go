package keyring

import (
	"math"
	"slices"
	"strings"
	"testing"

	"scrinium/api"
	"scrinium/mac"
	"scrinium/sha"
	"scrinium/word"
)

const greatest = math.MaxUint32

// pattern is n bytes that repeat only after 256, from one of them on.
func pattern(n, from int) string {
	b := make([]byte, n)
	for i := range b {
		b[i] = byte((i+from)*7 + 3)
	}
	return string(b)
}

// aKey is the i-th of 256 keys that are unlike.
func aKey(i int) string { return pattern(32, 41*i) }

// unhex is the bytes of a hex text that stands in a test.
func unhex(s string) string {
	b, is := word.Unhex(s)
	if !is {
		panic("no hex text: " + s)
	}
	return b
}

// row is an epoch, and its key.
type row struct {
	epoch uint32
	key   string
}

// plain is a ring by the chapter's words, made by no function of this package: its rows, by rising epochs.
type plain []row

// plainOf is a ring whose epochs have the keys of their numbers, modulo 256.
func plainOf(epochs ...uint32) plain {
	p := plain{}
	for _, epoch := range epochs {
		p = append(p, row{epoch, aKey(int(epoch % 256))})
	}
	return p
}

// upTo is a ring of the epochs from 1 to n.
func upTo(n int) plain {
	p := plain{}
	for i := range n {
		p = append(p, row{uint32(i + 1), aKey(i + 1)})
	}
	return p
}

// bytes are those of rows, whether or not they may be a ring's.
func (p plain) bytes() string {
	b := []byte{byte(len(p))}
	for _, x := range p {
		b = append(b, byte(x.epoch>>24), byte(x.epoch>>16), byte(x.epoch>>8), byte(x.epoch))
		b = append(b, x.key...)
	}
	return string(b)
}

func (p plain) newest() uint32 { return p[len(p)-1].epoch }

func (p plain) epochs() []uint32 {
	l := []uint32{}
	for _, x := range p {
		l = append(l, x.epoch)
	}
	return l
}

func (p plain) at(epoch uint32) int {
	return slices.IndexFunc(p, func(x row) bool { return x.epoch == epoch })
}

func (p plain) without(epoch uint32) plain {
	return slices.DeleteFunc(slices.Clone(p), func(x row) bool { return x.epoch == epoch })
}

func (p *plain) rotate(key string) (uint32, api.Errno) {
	switch {
	case len(key) != 32:
		return 0, api.ErrArg
	case len(*p) == 64 || p.newest() == greatest:
		return 0, api.ErrFull
	}
	*p = append(slices.Clip(*p), row{p.newest() + 1, key})
	return p.newest(), api.OK
}

func (p *plain) retire(epoch uint32) api.Errno {
	switch {
	case epoch == p.newest():
		return api.ErrArg
	case p.at(epoch) < 0:
		return api.ErrNone
	}
	*p = p.without(epoch)
	return api.OK
}

// plainRead is the ring whose bytes s is, and whether it is one's.
func plainRead(s string) (plain, bool) {
	if s == "" || s[0] < 1 || s[0] > 64 || len(s) != 1+36*int(s[0]) {
		return nil, false
	}
	p, was := plain{}, uint32(0)
	for at := 1; at < len(s); at += 36 {
		epoch := uint32(s[at])<<24 | uint32(s[at+1])<<16 | uint32(s[at+2])<<8 | uint32(s[at+3])
		if epoch <= was {
			return nil, false
		}
		p, was = append(p, row{epoch, s[at+4 : at+36]}), epoch
	}
	return p, true
}

// hasPair says where a ring has other keys of an epoch than a key's.
func hasPair(t *testing.T, about string, r *Ring, epoch uint32, key string) {
	t.Helper()
	wantCipher, _ := mac.Derive(key, "cipher", 16)
	wantTag, _ := mac.Derive(key, "tag", 32)
	cipher, tag, is := r.Keys(epoch)
	if cipher != wantCipher || tag != wantTag || !is {
		t.Errorf("%s: Keys(%d): %x, %x, %v, want %x, %x", about, epoch, cipher, tag, is, wantCipher, wantTag)
	}
}

// hasNone says where a ring has keys of an epoch.
func hasNone(t *testing.T, about string, r *Ring, epoch uint32) {
	t.Helper()
	if cipher, tag, is := r.Keys(epoch); cipher != "" || tag != "" || is {
		t.Errorf("%s: Keys(%d): %x, %x, %v, want none", about, epoch, cipher, tag, is)
	}
}

// tells says where a ring's epochs or bytes are not those of a plain one.
func tells(t *testing.T, about string, r *Ring, p plain) {
	t.Helper()
	if r.Newest() != p.newest() || !slices.Equal(r.Epochs(), p.epochs()) {
		t.Errorf("%s: Newest %d, Epochs %d, want %d, %d", about, r.Newest(), r.Epochs(), p.newest(), p.epochs())
	}
	if r.Bytes() != p.bytes() {
		t.Errorf("%s: Bytes: %x, want %x", about, r.Bytes(), p.bytes())
	}
}

// shows says where a ring is another one than a plain one, its keys included.
func shows(t *testing.T, about string, r *Ring, p plain) {
	t.Helper()
	tells(t, about, r, p)
	for _, x := range p {
		hasPair(t, about, r, x.epoch, x.key)
		for _, epoch := range []uint32{x.epoch - 1, x.epoch + 1} {
			if p.at(epoch) < 0 {
				hasNone(t, about, r, epoch)
			}
		}
	}
	if p.at(greatest) < 0 {
		hasNone(t, about, r, greatest)
	}
	hasNone(t, about, r, 0)
}

// is says where a call was answered something else.
func is(t *testing.T, about string, got, want api.Errno) {
	t.Helper()
	if got != want {
		t.Errorf("%s: %v, want %v", about, got, want)
	}
}

// mustNew is a ring that New made.
func mustNew(t *testing.T, key string) *Ring {
	t.Helper()
	r, err := New(key)
	if r == nil || err != api.OK {
		t.Fatalf("P13.1 New(%x): %v", key, err)
	}
	return r
}

// mustRead is the ring of bytes.
func mustRead(t *testing.T, s string) *Ring {
	t.Helper()
	r, err := Read(s)
	if r == nil || err != api.OK {
		t.Fatalf("P13.2 Read(%x): %v", s, err)
	}
	return r
}

// rotated is a ring of the epochs from 1 to n, by New and Rotate.
func rotated(t *testing.T, n int) *Ring {
	t.Helper()
	r := mustNew(t, aKey(1))
	for i := 2; i <= n; i++ {
		rotates(t, r, aKey(i), uint32(i), api.OK)
	}
	return r
}

// rotates says where Rotate answers something else.
func rotates(t *testing.T, r *Ring, key string, want uint32, wantErr api.Errno) {
	t.Helper()
	if epoch, err := r.Rotate(key); epoch != want || err != wantErr {
		t.Errorf("P13.1 Rotate(%d bytes): %d, %v, want %d, %v", len(key), epoch, err, want, wantErr)
	}
}

// retires says where Retire answers something else.
func retires(t *testing.T, r *Ring, epoch uint32, want api.Errno) {
	t.Helper()
	if err := r.Retire(epoch); err != want {
		t.Errorf("P13.1 Retire(%d): %v, want %v", epoch, err, want)
	}
}

// noKeys are texts that are no keys.
func noKeys() []string {
	l := []string{strings.Repeat("a", 1<<20)}
	for n := range 300 {
		if n != 32 {
			l = append(l, pattern(n, 1))
		}
	}
	return l
}

// P13.1

func TestNew(t *testing.T) {
	for _, key := range []string{aKey(1), aKey(2), strings.Repeat("\x00", 32), strings.Repeat("\xff", 32), "abcdefghijklmnopqrstuvwxyz012345"} {
		shows(t, "P13.1 New", mustNew(t, key), plain{{1, key}})
	}
	// Two of them have nothing in common.
	one, other := mustNew(t, aKey(1)), mustNew(t, aKey(1))
	rotates(t, one, aKey(2), 2, api.OK)
	shows(t, "P13.1 New", one, upTo(2))
	shows(t, "P13.1 New", other, upTo(1))
}

func TestNewWrong(t *testing.T) {
	for _, key := range append(noKeys(), "", pattern(31, 1), pattern(33, 1)) {
		if r, err := New(key); r != nil || err != api.ErrArg {
			t.Errorf("P13.1 New of %d bytes: %v, %v, want none, ErrArg", len(key), r, err)
		}
	}
}

// TestRotate: up to MaxEpochs keys each one has the next epoch, and those ahead of it stay.
func TestRotate(t *testing.T) {
	r := mustNew(t, aKey(1))
	for n := 2; n <= api.MaxEpochs; n++ {
		rotates(t, r, aKey(n), uint32(n), api.OK)
		shows(t, "P13.1 Rotate", r, upTo(n))
	}
}

// TestRotateSame: a key that there is already may be there again.
func TestRotateSame(t *testing.T) {
	r := mustNew(t, aKey(1))
	rotates(t, r, aKey(1), 2, api.OK)
	rotates(t, r, aKey(1), 3, api.OK)
	retires(t, r, 2, api.OK)
	rotates(t, r, aKey(1), 4, api.OK)
	shows(t, "P13.1 Rotate of one key", r, plain{{1, aKey(1)}, {3, aKey(1)}, {4, aKey(1)}})
}

func TestRotateWrong(t *testing.T) {
	for _, n := range []int{1, 2, api.MaxEpochs - 1, api.MaxEpochs} {
		r := rotated(t, n)
		for _, key := range noKeys() {
			rotates(t, r, key, 0, api.ErrArg)
		}
		shows(t, "P13.1 Rotate of no keys", r, upTo(n))
	}
}

// TestRotateFull: with MaxEpochs keys there is no other one, till one is retired; the epochs go on all the same.
func TestRotateFull(t *testing.T) {
	r, p := rotated(t, api.MaxEpochs), upTo(api.MaxEpochs)
	for epoch := uint32(65); epoch < 200; epoch++ {
		rotates(t, r, aKey(0), 0, api.ErrFull)
		rotates(t, r, "", 0, api.ErrArg)
		rotates(t, r, pattern(31, 0), 0, api.ErrArg)
		rotates(t, r, pattern(33, 0), 0, api.ErrArg)
		tells(t, "P13.1 Rotate of a full ring", r, p)
		retires(t, r, epoch-64, api.OK)
		p = p.without(epoch - 64)
		tells(t, "P13.1 Rotate of a full ring", r, p)
		rotates(t, r, aKey(int(epoch)), epoch, api.OK)
		p = append(p, row{epoch, aKey(int(epoch))})
	}
	shows(t, "P13.1 Rotate of a full ring", r, p)
}

// TestRotateFullOfGaps: it is the keys that are counted, not the epochs.
func TestRotateFullOfGaps(t *testing.T) {
	p := plain{}
	for i := range api.MaxEpochs {
		p = append(p, row{uint32(1000*i + 7), aKey(i)})
	}
	r := mustRead(t, p.bytes())
	rotates(t, r, aKey(0), 0, api.ErrFull)
	shows(t, "P13.1 Rotate of a full ring", r, p)
	few := mustRead(t, p[62:].bytes())
	rotates(t, few, aKey(200), 63008, api.OK)
	shows(t, "P13.1 Rotate of great epochs", few, append(p[62:], row{63008, aKey(200)}))
}

// TestRotateLast: behind the epoch 2^32 - 1 there is none, also where an older one is retired.
func TestRotateLast(t *testing.T) {
	p := plainOf(5, greatest-2)
	r := mustRead(t, p.bytes())
	rotates(t, r, aKey(254), greatest-1, api.OK)
	shows(t, "P13.1 Rotate ahead of the last epoch", r, plainOf(5, greatest-2, greatest-1))
	rotates(t, r, aKey(255), greatest, api.OK)
	p = plainOf(5, greatest-2, greatest-1, greatest)
	shows(t, "P13.1 Rotate to the last epoch", r, p)
	for _, epoch := range []uint32{0, greatest - 1, 5, greatest - 2} {
		rotates(t, r, aKey(3), 0, api.ErrFull)
		rotates(t, r, pattern(31, 3), 0, api.ErrArg)
		rotates(t, r, pattern(33, 3), 0, api.ErrArg)
		rotates(t, r, "", 0, api.ErrArg)
		shows(t, "P13.1 Rotate behind the last epoch", r, p)
		if epoch > 0 {
			retires(t, r, epoch, api.OK)
			p = p.without(epoch)
		}
	}
	retires(t, r, greatest, api.ErrArg)
	shows(t, "P13.1 the last epoch alone", r, plainOf(greatest))
	rotates(t, r, aKey(3), 0, api.ErrFull)
	rotates(t, mustRead(t, plainOf(greatest).bytes()), aKey(3), 0, api.ErrFull)
	rotates(t, mustRead(t, plainOf(greatest-1).bytes()), aKey(3), greatest, api.OK)
}

// TestRotateLastAndFull: both why a ring is full together are ErrFull, and a key that is none goes ahead of both.
func TestRotateLastAndFull(t *testing.T) {
	p := plain{}
	for i := range api.MaxEpochs {
		p = append(p, row{greatest - 63 + uint32(i), aKey(i)})
	}
	r := mustRead(t, p.bytes())
	rotates(t, r, "", 0, api.ErrArg)
	rotates(t, r, aKey(1), 0, api.ErrFull)
	retires(t, r, greatest-63, api.OK)
	rotates(t, r, aKey(1), 0, api.ErrFull)
	shows(t, "P13.1 Rotate of a full ring with the last epoch", r, p[1:])
}

func TestRetire(t *testing.T) {
	for gone := uint32(1); gone <= 5; gone++ {
		r, p := rotated(t, 6), upTo(6)
		retires(t, r, gone, api.OK)
		p = p.without(gone)
		shows(t, "P13.1 Retire", r, p)
		retires(t, r, gone, api.ErrNone)
		shows(t, "P13.1 Retire again", r, p)
		rotates(t, r, aKey(7), 7, api.OK)
		retires(t, r, gone, api.ErrNone)
		shows(t, "P13.1 Rotate behind Retire", r, append(p, row{7, aKey(7)}))
	}
}

// TestRetireNewest: the newest key stays, whatever is there beside it; once there is a newer one it goes.
func TestRetireNewest(t *testing.T) {
	r := mustNew(t, aKey(1))
	for n := 1; n < api.MaxEpochs; n++ {
		retires(t, r, uint32(n), api.ErrArg)
		shows(t, "P13.1 Retire of the newest one", r, upTo(n))
		rotates(t, r, aKey(n+1), uint32(n+1), api.OK)
	}
	for n := 1; n < api.MaxEpochs; n++ {
		retires(t, r, 64, api.ErrArg)
		retires(t, r, uint32(n), api.OK)
	}
	retires(t, r, 64, api.ErrArg)
	shows(t, "P13.1 Retire of all but the newest one", r, upTo(64)[63:])
	rotates(t, r, aKey(65), 65, api.OK)
	retires(t, r, 64, api.OK)
	retires(t, r, 65, api.ErrArg)
	shows(t, "P13.1 Retire of the one ahead", r, plainOf(65))
}

func TestRetireNone(t *testing.T) {
	for _, p := range []plain{upTo(1), upTo(3), upTo(64), plainOf(3, 5), plainOf(2), plainOf(greatest - 1), plainOf(1, greatest-1), plainOf(7, 256, 1<<24)} {
		r := mustRead(t, p.bytes())
		for _, epoch := range []uint32{0, 1, 2, 4, 6, 65, 66, 255, 256, 257, 258, 1 << 16, 1<<16 + 1, 1 << 24, 1 << 31, 1<<31 + 1, greatest - 2, greatest} {
			if p.at(epoch) < 0 {
				retires(t, r, epoch, api.ErrNone)
			}
		}
		shows(t, "P13.1 Retire of no epoch", r, p)
	}
}

// P13.2

// known are a key's two keys, which were worked out elsewhere.
func known() []struct{ key, cipher, tag string } {
	return []struct{ key, cipher, tag string }{
		{strings.Repeat("\x00", 32), "c5f1af371eeacb96c5c322995672c55e", "0d38f76a93b2e583109237cdcf8c053faab45eb910283b0132cb59759d7fd8e5"},
		{strings.Repeat("\xff", 32), "9efea89dd753ddc80d3a3211a735958c", "20e5e56cf921fc828bcc8f541dd3b81a52c853002e6bea617919f45e49f09741"},
		{unhex("000102030405060708090a0b0c0d0e0f101112131415161718191a1b1c1d1e1f"), "9216c5770059bda56d9d04340523b1d3", "4bc5d4feaa1a20c430596dae357fd815dbe4333054ea8465bfa1d8796b57037b"},
		{"abcdefghijklmnopqrstuvwxyz012345", "b16900e454bbe31e117fc45f95f0e0eb", "398213cc2f23040460243b0a7acf4075a1893676654d4bc6cee8a94577714a91"},
		{aKey(1), "ab9fcb54635934ac0759bde6aa081558", "1ea8ec96c3157cb6a39c34f6d376b8a59be7d7d9e4d9ab27d001b5e50f0bbfeb"},
		{aKey(2), "45a395d60cebfdd93413674eaea23f11", "09972880f549a40d2a230065899726438d8e44588655c54b0361a73e0113d23e"},
		{aKey(64), "b460049115bc7a7a0e9f1d354706cc62", "7c116e3f446b6e6a6ca715665137cfabced7b2e1ef3f730ace76f80aab87f085"},
	}
}

// TestKeysKnown: a key has its two keys whatever epoch it is of, and whoever made the ring.
func TestKeysKnown(t *testing.T) {
	all := mustNew(t, aKey(99))
	for i, c := range known() {
		epoch, err := all.Rotate(c.key)
		if epoch != uint32(i+2) || err != api.OK {
			t.Fatalf("P13.1 Rotate: %d, %v", epoch, err)
		}
		for _, x := range []struct {
			r     *Ring
			epoch uint32
		}{
			{mustNew(t, c.key), 1},
			{all, epoch},
			{mustRead(t, plain{{300, c.key}, {301, aKey(0)}}.bytes()), 300},
			{mustRead(t, plain{{300, aKey(0)}, {greatest, c.key}}.bytes()).Copy(), greatest},
		} {
			cipher, tag, is := x.r.Keys(x.epoch)
			if word.Hex(cipher) != c.cipher || word.Hex(tag) != c.tag || !is {
				t.Errorf("P13.2 Keys(%d) of %x: %x, %x, %v, want %s, %s", x.epoch, c.key, cipher, tag, is, c.cipher, c.tag)
			}
		}
	}
}

// TestKeysAll: of a full ring the pairs are what was worked out elsewhere, and no two of all these keys are alike.
func TestKeysAll(t *testing.T) {
	r := rotated(t, api.MaxEpochs)
	var all []string
	seen := map[string]uint32{}
	for _, epoch := range r.Epochs() {
		cipher, tag, is := r.Keys(epoch)
		if len(cipher) != api.KeySize || len(tag) != 32 || !is {
			t.Errorf("P13.2 Keys(%d): %x, %x, %v", epoch, cipher, tag, is)
		}
		all = append(all, cipher, tag)
		seen[cipher], seen[tag] = epoch, epoch
	}
	const want = "26eab3bb22ce2ac2ee9257668757bd97dc23d0ba0c3272f17aad530d27422970"
	if s := word.Hex(sha.Of(all...)); s != want || len(seen) != 128 {
		t.Errorf("P13.2 Keys of a full ring: the sum %s, want %s; %d keys are unlike", s, want, len(seen))
	}
}

func TestKeysNone(t *testing.T) {
	r := mustRead(t, plainOf(2, 4, 256, 1<<24).bytes())
	retires(t, r, 4, api.OK)
	for _, epoch := range []uint32{0, 1, 3, 4, 5, 255, 257, 258, 1 << 16, 1<<24 - 1, 1<<24 + 1, 1<<24 + 2, 1 << 31, greatest} {
		hasNone(t, "P13.2 Keys", r, epoch)
	}
	shows(t, "P13.2 Keys of none", r, plainOf(2, 256, 1<<24))
}

// TestBytesKnown: bytes that were worked out elsewhere.
func TestBytesKnown(t *testing.T) {
	one := mustNew(t, aKey(1))
	if s := word.Hex(one.Bytes()); s != "0100000001222930373e454c535a61686f767d848b9299a0a7aeb5bcc3cad1d8dfe6edf4fb" {
		t.Errorf("P13.2 Bytes of a new ring: %s", s)
	}
	gaps := rotated(t, 5)
	retires(t, gaps, 3, api.OK)
	retires(t, gaps, 1, api.OK)
	if s := word.Hex(gaps.Bytes()); s != "030000000241484f565d646b727980878e959ca3aab1b8bfc6cdd4dbe2e9f0f7fe050c131a000000047f868d949ba2a9b0b7bec5ccd3dae1e8eff6fd040b121920272e353c434a5158000000059ea5acb3bac1c8cfd6dde4ebf2f900070e151c232a31383f464d545b62697077" {
		t.Errorf("P13.2 Bytes with gaps: %s", s)
	}
	full := rotated(t, api.MaxEpochs)
	if s := full.Bytes(); len(s) != 2305 || word.Hex(sha.Of(s)) != "c5b26c4e71c992b510c9d5c8e84cc8e49783bfee950c0a992adc9eb040421291" {
		t.Errorf("P13.2 Bytes of a full ring: %d bytes, the sum %x", len(s), sha.Of(s))
	}
	thirds := thirdsOf(t, 99)
	if s := thirds.Bytes(); len(s) != 1189 || word.Hex(sha.Of(s)) != "4e85a7dc964f4aa4f7ec91408680f7ef95645d9f637592ccf95fe9273ed5163c" {
		t.Errorf("P13.2 Bytes of each third epoch: %d bytes, the sum %x", len(s), sha.Of(s))
	}
}

// thirdsOf is a ring of each third epoch up to n, by New, Rotate and Retire.
func thirdsOf(t *testing.T, n uint32) *Ring {
	t.Helper()
	r := mustNew(t, aKey(1))
	for epoch := uint32(2); epoch <= n; epoch++ {
		rotates(t, r, aKey(int(epoch)), epoch, api.OK)
		if (epoch-1)%3 != 0 {
			retires(t, r, epoch-1, api.OK)
		}
	}
	return r
}

// TestTellingAgain: what is told is the same each time, and whoever alters a list of it alters nothing else.
func TestTellingAgain(t *testing.T) {
	r, p := rotated(t, api.MaxEpochs), upTo(api.MaxEpochs)
	for range 50 {
		tells(t, "P13.2 told again", r, p)
		l := r.Epochs()
		other := r.Epochs()
		clear(l)
		_ = append(l[:1], 7, 8, 9)
		if !slices.Equal(other, p.epochs()) {
			t.Errorf("P13.2 two lists of Epochs have memory in common: %d", other)
		}
	}
	shows(t, "P13.2 told again", r, p)
}

// rings are some that may be.
func rings() []plain {
	return []plain{
		upTo(1), upTo(2), upTo(3), upTo(63), upTo(64),
		plainOf(2), plainOf(255), plainOf(256), plainOf(257), plainOf(1 << 16), plainOf(1 << 24), plainOf(1 << 31), plainOf(greatest - 1), plainOf(greatest),
		plainOf(1, 3), plainOf(1, greatest), plainOf(255, 256), plainOf(1<<31-1, 1<<31), plainOf(1, 256, 1<<16, 1<<24, greatest),
		plainOf(1<<24+1, 2<<24), plainOf(0x01020304, 0x04030201),
		{{1, strings.Repeat("\x00", 32)}},
		{{1, strings.Repeat("\x00", 32)}, {2, strings.Repeat("\xff", 32)}},
		{{5, aKey(1)}, {6, aKey(1)}},
	}
}

func TestRead(t *testing.T) {
	for _, p := range rings() {
		r, err := Read(p.bytes())
		if r == nil || err != api.OK {
			t.Errorf("P13.2 Read(%x): %v", p.bytes(), err)
			continue
		}
		shows(t, "P13.2 Read", r, p)
	}
}

// isNone says where bytes are read as a ring.
func isNone(t *testing.T, about, s string) {
	t.Helper()
	if r, err := Read(s); r != nil || err != api.ErrForm {
		t.Errorf("P13.2 Read of %s, %d bytes, %.80x: %v, %v, want none, ErrForm", about, len(s), s, r, err)
	}
}

// TestReadCount: of all counts, with all numbers of rows behind them, only those are a ring's that are from 1 to MaxEpochs and tell of as many.
func TestReadCount(t *testing.T) {
	isNone(t, "no byte", "")
	for rows := range 258 {
		p := upTo(rows)
		behind := p.bytes()[1:]
		for count := range 256 {
			s := string([]byte{byte(count)}) + behind
			if count >= 1 && count <= 64 && rows == count {
				tells(t, "P13.2 Read", mustRead(t, s), p)
			} else {
				isNone(t, "another count", s)
			}
		}
	}
}

// TestReadSize: with fewer bytes than the count asks, or more, there is no ring.
func TestReadSize(t *testing.T) {
	for _, p := range rings() {
		s := p.bytes()
		for n := range len(s) {
			isNone(t, "fewer bytes", s[:n])
			if n > 0 {
				isNone(t, "bytes behind the first ones", s[n:])
			}
		}
		for _, more := range []string{"\x00", "\x01", "\xff", s, s[1:], pattern(35, 0), pattern(36, 0), pattern(37, 0), strings.Repeat("\x00", 36), strings.Repeat("\xff", 36), strings.Repeat("a", 1<<20)} {
			isNone(t, "more bytes", s+more)
		}
		isNone(t, "a byte ahead", "\x00"+s)
	}
}

// TestReadOrder: epochs that are 0, that are equal, or that fall, wherever they stand, are no ring's.
func TestReadOrder(t *testing.T) {
	for _, epochs := range [][]uint32{
		{0}, {0, 1}, {1, 0}, {0, 0}, {0, greatest}, {greatest, 0},
		{1, 1}, {2, 1}, {1, 2, 2}, {1, 2, 1}, {1, 3, 2}, {2, 1, 3}, {3, 2, 1}, {1, 1, 2},
		{256, 255}, {256, 1}, {1 << 24, 1}, {1 << 31, 1}, {1 << 31, 1<<31 - 1}, {greatest, 1}, {greatest, greatest - 1}, {greatest, greatest},
		{0x01000000, 0x00ffffff}, {2 << 24, 1<<24 + 255},
	} {
		isNone(t, "such epochs", plainOf(epochs...).bytes())
		// The same key twice makes no difference.
		p := plainOf(epochs...)
		for i := range p {
			p[i].key = aKey(7)
		}
		isNone(t, "such epochs of one key", p.bytes())
	}
	for _, n := range []int{2, 3, 10, 64} {
		for at := 1; at < n; at++ {
			p := upTo(n)
			p[at-1].epoch, p[at].epoch = p[at].epoch, p[at-1].epoch
			isNone(t, "two that changed their places", p.bytes())
			p = upTo(n)
			p[at].epoch = p[at-1].epoch
			isNone(t, "two that are equal", p.bytes())
			p = upTo(n)
			p[at].epoch = 0
			isNone(t, "an epoch 0", p.bytes())
		}
	}
}

// TestReadEachByte: whichever byte is another one, Read answers what the chapter's words make of it.
func TestReadEachByte(t *testing.T) {
	for _, p := range []plain{upTo(1), plainOf(2, 4, 5), plainOf(255, 256, greatest)} {
		for at := range len(p.bytes()) {
			for by := 1; by < 256; by++ {
				b := []byte(p.bytes())
				b[at] ^= byte(by)
				s := string(b)
				if want, may := plainRead(s); may {
					tells(t, "P13.2 Read with another byte", mustRead(t, s), want)
				} else {
					isNone(t, "another byte", s)
				}
			}
		}
	}
}

// TestNotThere: a ring that is nil, or that this package did not make, is none.
func TestNotThere(t *testing.T) {
	for about, r := range map[string]*Ring{"nil": nil, "the zero value": {}, "a new one": new(Ring)} {
		for range 2 {
			for _, key := range []string{aKey(1), "", pattern(31, 0), pattern(33, 0)} {
				if epoch, err := r.Rotate(key); epoch != 0 || err != api.ErrNil {
					t.Errorf("P13.1 Rotate(%d bytes) of %s: %d, %v, want ErrNil", len(key), about, epoch, err)
				}
			}
			for _, epoch := range []uint32{0, 1, 2, greatest} {
				is(t, "P13.1 Retire of "+about, r.Retire(epoch), api.ErrNil)
				hasNone(t, "P13.2 Keys of "+about, r, epoch)
			}
			if n, l, s := r.Newest(), r.Epochs(), r.Bytes(); n != 0 || len(l) != 0 || s != "" {
				t.Errorf("P13.2 %s: Newest %d, Epochs %d, Bytes %x", about, n, l, s)
			}
			if c := r.Copy(); c != nil {
				t.Errorf("P13.2 Copy of %s: %v", about, c)
			}
		}
	}
}

// P13.3

// TestWrittenRead: what Bytes wrote is read as the same ring, which goes on as the other one would.
func TestWrittenRead(t *testing.T) {
	r := mustNew(t, aKey(1))
	p := upTo(1)
	for epoch := uint32(2); epoch < 250; epoch++ {
		again := mustRead(t, r.Bytes())
		tells(t, "P13.3 written and read", again, p)
		if epoch%40 == 0 {
			shows(t, "P13.3 written and read", again, p)
		}
		// Each second time it is the one that was read that goes on.
		if epoch%2 == 0 {
			r = again
		}
		rotates(t, r, aKey(int(epoch)), epoch, api.OK)
		p = append(p, row{epoch, aKey(int(epoch))})
		if gone := epoch / 2; gone > 30 && p.at(gone) >= 0 || len(p) == 64 {
			gone = p[int(epoch)%(len(p)-1)].epoch
			retires(t, r, gone, api.OK)
			p = p.without(gone)
		}
	}
	for _, p := range rings() {
		if s := mustRead(t, p.bytes()).Bytes(); s != p.bytes() {
			t.Errorf("P13.3 Bytes of what was read: %x, want %x", s, p.bytes())
		}
	}
}

// TestWrittenApart: rings that are read from the same bytes go on by themselves.
func TestWrittenApart(t *testing.T) {
	s := upTo(3).bytes()
	one, other := mustRead(t, s), mustRead(t, s)
	rotates(t, one, aKey(9), 4, api.OK)
	retires(t, one, 1, api.OK)
	shows(t, "P13.3 the other one of the same bytes", other, upTo(3))
	shows(t, "P13.3 the one of the same bytes", one, plain{{2, aKey(2)}, {3, aKey(3)}, {4, aKey(9)}})
}

// TestCopy: a ring and its copy are the same, and go on by themselves, whichever does what.
func TestCopy(t *testing.T) {
	for _, p := range append(rings(), plainOf(1, 5, 9), upTo(62)) {
		r := mustRead(t, p.bytes())
		c := r.Copy()
		shows(t, "P13.3 a copy", c, p)
		apart(t, "P13.3 the copy does", c, r, p)
		r = mustRead(t, p.bytes())
		apart(t, "P13.3 the ring does", r, r.Copy(), p)
		r = mustRead(t, p.bytes())
		apart(t, "P13.3 a copy of a copy does", r.Copy().Copy(), r, p)
	}
}

// apart says where what one ring does another one, of the same rows, does, too.
func apart(t *testing.T, about string, one, other *Ring, p plain) {
	t.Helper()
	was := slices.Clone(p)
	for i, epoch := range append(p.epochs(), 0) {
		is(t, about+" Retire", one.Retire(epoch), p.retire(epoch))
		want, wantErr := p.rotate(aKey(200 + i%50))
		if got, err := one.Rotate(aKey(200 + i%50)); got != want || err != wantErr {
			t.Errorf("%s Rotate: %d, %v, want %d, %v", about, got, err, want, wantErr)
		}
		tells(t, about, one, p)
		tells(t, about+" what its other one does not", other, was)
	}
	shows(t, about, one, p)
	shows(t, about+" what its other one does not", other, was)
}

// TestCopyBothGoOn: behind a copy the next epoch of either is its own.
func TestCopyBothGoOn(t *testing.T) {
	r := rotated(t, 2)
	c := r.Copy()
	rotates(t, r, aKey(30), 3, api.OK)
	rotates(t, c, aKey(40), 3, api.OK)
	rotates(t, c, aKey(41), 4, api.OK)
	retires(t, r, 1, api.OK)
	retires(t, c, 2, api.OK)
	shows(t, "P13.3 the ring", r, plain{{2, aKey(2)}, {3, aKey(30)}})
	shows(t, "P13.3 the copy", c, plain{{1, aKey(1)}, {3, aKey(40)}, {4, aKey(41)}})
}

// pair is a ring and another one, and what each of both has to be.
type pair struct {
	ring, other   *Ring
	plain, others plain
}

const steps = 9 // that step knows

// step does one thing with the ring, or lets both change their places.
func (x *pair) step(t *testing.T, n int) {
	t.Helper()
	key := aKey(len(x.plain) + 10*n)
	switch n {
	case 0:
		want, wantErr := x.plain.rotate(key)
		rotates(t, x.ring, key, want, wantErr)
	case 1:
		x.other, x.others = x.ring.Copy(), x.plain
	case 2:
		x.other, x.others = mustRead(t, x.ring.Bytes()), x.plain
	case 3:
		x.ring, x.other, x.plain, x.others = x.other, x.ring, x.others, x.plain
	default:
		epoch := uint32(n - 4)
		retires(t, x.ring, epoch, x.plain.retire(epoch))
	}
}

// TestRows: in all rows of five steps, what a ring and another one tell is what the chapter's words make of both.
func TestRows(t *testing.T) {
	for choice := range steps * steps * steps * steps * steps {
		x := pair{ring: rotated(t, 2), other: mustRead(t, plainOf(3).bytes()), plain: upTo(2), others: plainOf(3)}
		for left := choice + steps*steps*steps*steps*steps; left >= steps; left /= steps {
			x.step(t, left%steps)
			tells(t, "P13.3 in a row of steps", x.ring, x.plain)
			tells(t, "P13.3 in a row of steps, the other one", x.other, x.others)
		}
		if t.Failed() {
			t.Fatalf("P13.3 the row %d of steps", choice)
		}
	}
}

// TestExample: the chapter's.
func TestExample(t *testing.T) {
	r := mustNew(t, aKey(1))
	rotates(t, r, aKey(2), 2, api.OK)
	if l := r.Epochs(); !slices.Equal(l, []uint32{1, 2}) {
		t.Errorf("P13.2 Epochs: %d", l)
	}
	retires(t, r, 2, api.ErrArg)
	retires(t, r, 1, api.OK)
	shows(t, "P13.1 the example", r, plainOf(2))
}
