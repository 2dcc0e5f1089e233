package share

import (
	"slices"
	"strings"
	"testing"

	"scrinium/api"
	"scrinium/sha"
	"scrinium/word"
)

// pattern is n bytes that repeat only after 256, from one of them on.
func pattern(n, from int) string {
	b := make([]byte, n)
	for i := range b {
		b[i] = byte((i+from)*7 + 3)
	}
	return string(b)
}

// aSecret is a secret of n bytes.
func aSecret(n int) string { return pattern(n, 200) }

// someTexts are count texts of n bytes each.
func someTexts(count, n int) []string {
	l := make([]string, count)
	for i := range l {
		l[i] = pattern(n, 31*i*i+5*i)
	}
	return l
}

// unhex is the bytes of a hex text that stands in a test.
func unhex(s string) string {
	b, is := word.Unhex(s)
	if !is {
		panic("no hex text: " + s)
	}
	return b
}

// headed is a share's bytes by the chapter's words, made by no function of this package.
func headed(place, n int, s string) string { return string([]byte{byte(place), byte(n)}) + s }

// byRule is the shares of a secret by the chapter's words, made by no function of this package.
func byRule(secret string, l []string) []string {
	last := []byte(secret)
	for i := range last {
		for _, s := range l {
			last[i] ^= s[i]
		}
	}
	n := len(l) + 1
	shares := make([]string, n)
	for i, s := range l {
		shares[i] = headed(i+1, n, s)
	}
	shares[n-1] = headed(n, n, string(last))
	return shares
}

// mustSplit is a secret's shares, by Split.
func mustSplit(t *testing.T, secret string, l ...string) []string {
	t.Helper()
	shares, err := Split(secret, l...)
	if err != api.OK || len(shares) != len(l)+1 {
		t.Fatalf("P6.1 Split of %d bytes by %d texts: %d shares, %v", len(secret), len(l), len(shares), err)
	}
	return shares
}

// gathered is a Gather to which shares came.
func gathered(t *testing.T, shares ...string) *Gather {
	t.Helper()
	g := New()
	for _, s := range shares {
		if err := g.Add(s); err != api.OK {
			t.Fatalf("P6.2 Add(%x): %v", s, err)
		}
	}
	return g
}

// has says where a Gather has something else than so many shares of n, and a secret, or none.
func has(t *testing.T, g *Gather, have, n int, secret string, is bool) {
	t.Helper()
	if h, m := g.Have(); h != have || m != n {
		t.Errorf("P6.2 Have: %d of %d, want %d of %d", h, m, have, n)
	}
	if s, all := g.Secret(); s != secret || all != is {
		t.Errorf("P6.2 Secret: %x, %v, want %x, %v", s, all, secret, is)
	}
}

// noShares are texts that are no share's bytes.
func noShares() []string {
	l := []string{"", "\x01", "\x01\x01", "\x01\x10", headed(1, 1, pattern(api.MaxSecret+1, 0)), headed(16, 16, pattern(api.MaxSecret+1, 0)), headed(1, 2, pattern(256+2, 0)), strings.Repeat("\x01", 1<<20)}
	for _, size := range []int{1, 2, api.MaxSecret} {
		s := pattern(size, 0)
		l = append(l, headed(0, 0, s), headed(1, 0, s), headed(0, 1, s), headed(2, 1, s), headed(0, 16, s), headed(17, 16, s))
		l = append(l, headed(1, 17, s), headed(16, 17, s), headed(17, 17, s), headed(1, 255, s), headed(255, 1, s), headed(255, 255, s), headed(3, 2, s))
	}
	return l
}

// P6.1

// TestSplitKnown: the last shares were worked out elsewhere; the first one is the chapter's example.
func TestSplitKnown(t *testing.T) {
	if l, err := Split("ab", "xy"); err != api.OK || !slices.Equal(l, []string{"\x01\x02xy", "\x02\x02" + string([]byte{25, 27})}) {
		t.Errorf("P6.1 Split(ab, xy): %q, %v", l, err)
	}
	for _, c := range []struct {
		size, texts int
		last        string
	}{
		{1, 0, "01017b"},
		{1, 1, "020278"},
		{2, 2, "0303878e"},
		{16, 4, "0505272e357c737a41481f666d74abb2b980"},
		{32, 3, "04042a3a2e5e5a4a76765a2a3e2ecadad6f6eada2e3e3a4a56567a6a5e2e4a3a36d6"},
		{64, 15, "101022024e1e8222262602223ece228226262202ce3e4222e62602221e4e62c2e666e202ce1e02e266660262fe4e620266e6e202ce7ec2e226e602621e4e22422626"},
	} {
		l := mustSplit(t, aSecret(c.size), someTexts(c.texts, c.size)...)
		if s := l[c.texts]; s != unhex(c.last) {
			t.Errorf("P6.1 Split of %d bytes by %d texts: the last share %x, want %s", c.size, c.texts, s, c.last)
		}
	}
}

// TestSplitEach: secrets of each length, by as many texts as may be, have the shares that the chapter's rule makes, and that were worked out elsewhere.
func TestSplitEach(t *testing.T) {
	var all []string
	for size := 1; size <= 64; size++ {
		for texts := range 16 {
			l, err := Split(aSecret(size), someTexts(texts, size)...)
			if want := byRule(aSecret(size), someTexts(texts, size)); err != api.OK || !slices.Equal(l, want) {
				t.Errorf("P6.1 Split of %d bytes by %d texts: %x, %v, want %x", size, texts, l, err, want)
			}
			all = append(all, l...)
		}
	}
	const want = "8e935561f806e651327c0bc12693aab0f9c5447c367fd13f91efcc15448ce8f5"
	if s := word.Hex(sha.Of(all...)); s != want {
		t.Errorf("P6.1 Split of all lengths: the sum %s, want %s", s, want)
	}
}

// TestSplitByNone: the only share of a secret that no text splits is itself, whether the list is nil or has no elements.
func TestSplitByNone(t *testing.T) {
	for _, l := range [][]string{nil, {}} {
		for _, secret := range []string{"a", "\x00", aSecret(api.MaxSecret)} {
			if shares, err := Split(secret, l...); err != api.OK || !slices.Equal(shares, []string{"\x01\x01" + secret}) {
				t.Errorf("P6.1 Split(%x): %x, %v", secret, shares, err)
			}
		}
	}
}

func TestSplitWrong(t *testing.T) {
	long := strings.Repeat("a", 1<<20)
	for _, c := range []struct {
		secret string
		l      []string
	}{
		{"", nil},
		{"", []string{}},
		{"", []string{""}},
		{"", []string{"", "", ""}},
		{"", []string{"a"}},
		{aSecret(65), nil},
		{aSecret(65), someTexts(1, 65)},
		{aSecret(65), someTexts(1, 64)},
		{aSecret(64), someTexts(1, 65)},
		{aSecret(256 + 1), someTexts(2, 256+1)},
		{long, nil},
		{long, []string{long}},
		{"a", []string{long}},
		{"a", someTexts(16, 1)},
		{"a", someTexts(17, 1)},
		{"a", someTexts(255, 1)},
		{"a", someTexts(256, 1)},
		{"a", someTexts(257, 1)},
		{aSecret(64), someTexts(16, 64)},
		{"a", []string{""}},
		{"a", []string{"ab"}},
		{"ab", []string{"a"}},
		{"ab", []string{"a", "b"}},
		{"abc", []string{"abcd", "ab"}},
		{"", someTexts(16, 0)},
		{"", someTexts(16, 1)},
	} {
		if l, err := Split(c.secret, c.l...); len(l) != 0 || err != api.ErrArg {
			t.Errorf("P6.1 Split of %d bytes by %d texts: %d shares, %v, want ErrArg", len(c.secret), len(c.l), len(l), err)
		}
	}
}

// TestSplitOneUnlike: one text of another length, wherever it stands, is wrong.
func TestSplitOneUnlike(t *testing.T) {
	for _, texts := range []int{1, 2, 3, 15} {
		for at := range texts {
			for _, size := range []int{0, 1, 7, 9, 16, 64, 65, 256 + 8} {
				l := someTexts(texts, 8)
				l[at] = pattern(size, 0)
				if shares, err := Split(aSecret(8), l...); len(shares) != 0 || err != api.ErrArg {
					t.Errorf("P6.1 Split of 8 bytes by %d texts, that at %d of %d bytes: %x, %v, want ErrArg", texts, at, size, shares, err)
				}
			}
		}
	}
}

// TestSplitMemory: the list that is handed in stays as it is, and that which is answered is new each time.
func TestSplitMemory(t *testing.T) {
	// There is room behind the list, where a row that were made in place would be seen.
	room := append(someTexts(3, 5), "behind", "more")
	was := slices.Clone(room)
	want := byRule("hello", room[:3])
	shares := mustSplit(t, "hello", room[:3]...)
	if !slices.Equal(room, was) {
		t.Errorf("P6.1 a list of texts is changed: %q", room)
	}
	shares[0], shares[3] = "", ""
	if again := mustSplit(t, "hello", room[:3]...); !slices.Equal(again, want) || !slices.Equal(room, was) {
		t.Errorf("P6.1 a list that is answered is not new: %q", again)
	}
	room[0] = "other"
	if again := mustSplit(t, "hello", was[:3]...); !slices.Equal(again, want) {
		t.Errorf("P6.1 Split asked again: %q", again)
	}
}

// TestReadEachHead: of all heads only those are a share's whose n is from 1 to MaxShares, and whose place from 1 to n.
func TestReadEachHead(t *testing.T) {
	for _, rest := range []string{"\x00", "ab", pattern(api.MaxSecret, 9)} {
		for place := range 256 {
			for n := range 256 {
				wantPlace, wantN, want, wantErr := place, n, rest, api.OK
				if n < 1 || n > 16 || place < 1 || place > n {
					wantPlace, wantN, want, wantErr = 0, 0, "", api.ErrForm
				}
				i, m, s, err := Read(headed(place, n, rest))
				if i != wantPlace || m != wantN || s != want || err != wantErr {
					t.Errorf("P6.1 Read(%d, %d, %x): %d, %d, %x, %v, want %v", place, n, rest, i, m, s, err, wantErr)
				}
			}
		}
	}
}

// TestReadEachSize: a share's bytes are 3 to MaxSecret + 2.
func TestReadEachSize(t *testing.T) {
	for size := range 300 {
		rest := pattern(max(size-2, 0), 1)
		text := headed(2, 3, rest)[:size]
		i, m, s, err := Read(text)
		if size >= 3 && size <= 66 {
			if i != 2 || m != 3 || s != rest || err != api.OK {
				t.Errorf("P6.1 Read of %d bytes: %d, %d, %x, %v", size, i, m, s, err)
			}
		} else if i != 0 || m != 0 || s != "" || err != api.ErrForm {
			t.Errorf("P6.1 Read of %d bytes: %d, %d, %x, %v, want ErrForm", size, i, m, s, err)
		}
	}
}

func TestReadWrong(t *testing.T) {
	for _, c := range noShares() {
		if i, m, s, err := Read(c); i != 0 || m != 0 || s != "" || err != api.ErrForm {
			t.Errorf("P6.1 Read of %d bytes, %.4q ..: %d, %d, %x, %v, want ErrForm", len(c), c, i, m, s, err)
		}
	}
}

// TestReadOfSplit: what Split answers is read as what it was made of.
func TestReadOfSplit(t *testing.T) {
	for _, size := range []int{1, 2, 63, 64} {
		for _, texts := range []int{0, 1, 2, 14, 15} {
			l := someTexts(texts, size)
			for i, share := range mustSplit(t, aSecret(size), l...) {
				place, n, s, err := Read(share)
				if place != i+1 || n != texts+1 || len(s) != size || err != api.OK || i < texts && s != l[i] {
					t.Errorf("P6.1 Read of share %d of %d: %d, %d, %x, %v", i+1, texts+1, place, n, s, err)
				}
			}
		}
	}
}

// P6.2

func TestNew(t *testing.T) {
	has(t, New(), 0, 0, "", false)
	// Two of them have nothing in common.
	one, other := New(), New()
	if err := one.Add("\x01\x01a"); err != api.OK {
		t.Fatalf("P6.2 Add: %v", err)
	}
	has(t, other, 0, 0, "", false)
	has(t, one, 1, 1, "a", true)
}

// TestComing: as shares come one by one, Have counts them, and there is a secret just when all have come.
func TestComing(t *testing.T) {
	for _, size := range []int{1, 2, 32, 64} {
		for texts := range 16 {
			secret, n := aSecret(size), texts+1
			g := New()
			for i, s := range mustSplit(t, secret, someTexts(texts, size)...) {
				if err := g.Add(s); err != api.OK {
					t.Fatalf("P6.2 Add of share %d of %d, %d bytes: %v", i+1, n, size, err)
				}
				if i+1 < n {
					has(t, g, i+1, n, "", false)
				}
			}
			has(t, g, n, n, secret, true)
			has(t, g, n, n, secret, true)
		}
	}
}

// TestAddForm: what Read refuses is refused, with Read's error, and changes nothing, whatever is there.
func TestAddForm(t *testing.T) {
	shares := mustSplit(t, "hello", someTexts(2, 5)...)
	for came := range len(shares) + 1 {
		g := gathered(t, shares[:came]...)
		haveWas, nWas := g.Have()
		secret, is := g.Secret()
		for _, s := range noShares() {
			if err := g.Add(s); err != api.ErrForm {
				t.Errorf("P6.2 Add of %d bytes, %.4q .., to %d shares: %v, want ErrForm", len(s), s, came, err)
			}
			has(t, g, haveWas, nWas, secret, is)
		}
		for _, s := range shares[came:] {
			if err := g.Add(s); err != api.OK {
				t.Errorf("P6.2 Add of a share behind what is none: %v", err)
			}
		}
		has(t, g, 3, 3, "hello", true)
	}
}

// TestAddOther: a share of another n, or of another length, is none of that secret, also where one of its place is there.
func TestAddOther(t *testing.T) {
	shares := mustSplit(t, "hello", someTexts(3, 5)...)
	others := []string{
		headed(1, 1, "hello"), headed(1, 3, "hello"), headed(1, 5, "hello"), headed(4, 16, "hello"), headed(5, 5, "hello"), headed(3, 3, "hello"),
		headed(1, 4, "hell"), headed(4, 4, "hell"), headed(1, 4, "hello!"), headed(4, 4, "hello!"), headed(2, 4, "h"), headed(4, 4, pattern(64, 0)),
		headed(2, 3, "hell"), headed(1, 5, "hello!"), headed(5, 16, pattern(64, 0)),
	}
	for came := 1; came <= len(shares); came++ {
		g := gathered(t, shares[:came]...)
		secret, is := g.Secret()
		for _, s := range others {
			if err := g.Add(s); err != api.ErrOther {
				t.Errorf("P6.2 Add(%x) to %d of 4 shares of 5 bytes: %v, want ErrOther", s, came, err)
			}
			has(t, g, came, 4, secret, is)
		}
		for _, s := range shares[came:] {
			if err := g.Add(s); err != api.OK {
				t.Errorf("P6.2 Add of a share behind another secret's: %v", err)
			}
		}
		has(t, g, 4, 4, "hello", true)
	}
}

// TestAddOtherOne: the first share says what the others must be, whichever it is.
func TestAddOtherOne(t *testing.T) {
	for n := 1; n <= 16; n++ {
		for place := 1; place <= n; place++ {
			g := gathered(t, headed(place, n, "ab"))
			others := []string{headed(1, n, "a"), headed(n, n, "abc"), headed(place, n, "a"), headed(place, n, "abc")}
			for m := 1; m <= 16; m++ {
				if m != n {
					others = append(others, headed(1, m, "ab"), headed(m, m, "ab"), headed(1, m, "a"))
				}
			}
			for _, s := range others {
				if err := g.Add(s); err != api.ErrOther {
					t.Errorf("P6.2 Add(%x) to one of %d: %v, want ErrOther", s, n, err)
				}
			}
			if h, m := g.Have(); h != 1 || m != n {
				t.Errorf("P6.2 Have behind errors: %d of %d, want 1 of %d", h, m, n)
			}
		}
	}
}

// TestAddHave: of each place there is one, the first that came, whether another one has the same bytes or not.
func TestAddHave(t *testing.T) {
	for _, n := range []int{1, 2, 3, 16} {
		shares := mustSplit(t, "hello", someTexts(n-1, 5)...)
		for came := 1; came <= n; came++ {
			g := gathered(t, shares[:came]...)
			for i := range came {
				for _, s := range []string{shares[i], headed(i+1, n, "HELLO"), headed(i+1, n, "\x00\x00\x00\x00\x00")} {
					if err := g.Add(s); err != api.ErrHave {
						t.Errorf("P6.2 Add(%x) to the first %d of %d: %v, want ErrHave", s, came, n, err)
					}
				}
			}
			if h, m := g.Have(); h != came || m != n {
				t.Errorf("P6.2 Have behind ErrHave: %d of %d, want %d of %d", h, m, came, n)
			}
			for _, s := range shares[came:] {
				if err := g.Add(s); err != api.OK {
					t.Errorf("P6.2 Add of a share behind ErrHave: %v", err)
				}
			}
			has(t, g, n, n, "hello", true)
		}
	}
}

// TestAddAnyOfAlike: shares that are alike are taken, also those that no Split answered, and the secret is all of them, either or.
func TestAddAnyOfAlike(t *testing.T) {
	g := gathered(t, headed(3, 3, "\x01\x80"), headed(1, 3, "\x02\x80"), headed(2, 3, "\xff\x01"))
	has(t, g, 3, 3, "\xfc\x01", true)
	g = gathered(t, headed(2, 2, "same"), headed(1, 2, "same"))
	has(t, g, 2, 2, "\x00\x00\x00\x00", true)
}

// TestDrop: behind it none is there, and shares of whatever secret may come, those that were there, too.
func TestDrop(t *testing.T) {
	shares := mustSplit(t, "hello", someTexts(2, 5)...)
	other := mustSplit(t, aSecret(64), someTexts(15, 64)...)
	for came := range len(shares) + 1 {
		g := gathered(t, shares[:came]...)
		g.Drop()
		has(t, g, 0, 0, "", false)
		g.Drop()
		has(t, g, 0, 0, "", false)
		if err := g.Add("none"); err != api.ErrForm {
			t.Errorf("P6.2 Add of what is none behind Drop: %v, want ErrForm", err)
		}
		for _, l := range [][]string{other, shares, {"\x01\x01a"}} {
			for i, s := range l {
				if err := g.Add(s); err != api.OK {
					t.Errorf("P6.2 Add of share %d of %d behind Drop: %v", i+1, len(l), err)
				}
			}
			if h, n := g.Have(); h != len(l) || n != len(l) {
				t.Errorf("P6.2 Have behind Drop: %d of %d, want %d of them", h, n, len(l))
			}
			if _, is := g.Secret(); !is {
				t.Error("P6.2 Secret behind Drop: none")
			}
			g.Drop()
		}
		has(t, g, 0, 0, "", false)
	}
}

// TestNone: a nil Gather, and one that New did not make, answer ErrNil, whatever comes, or nothing.
func TestNone(t *testing.T) {
	for _, g := range []*Gather{nil, {}, new(Gather)} {
		for _, s := range append(noShares(), "\x01\x01a", headed(16, 16, pattern(64, 0))) {
			if err := g.Add(s); err != api.ErrNil {
				t.Errorf("P6.2 Add of %d bytes to none: %v, want ErrNil", len(s), err)
			}
		}
		has(t, g, 0, 0, "", false)
		g.Drop()
		has(t, g, 0, 0, "", false)
		if err := g.Add("\x01\x01a"); err != api.ErrNil {
			t.Errorf("P6.2 Add to none behind Drop: %v, want ErrNil", err)
		}
	}
}

// P6.3

// orders hands on each order of a list.
func orders(l []string, at int, each func([]string)) {
	if at == len(l) {
		each(l)
		return
	}
	for i := at; i < len(l); i++ {
		l[at], l[i] = l[i], l[at]
		orders(l, at+1, each)
		l[at], l[i] = l[i], l[at]
	}
}

// TestEachOrder: in each order that up to six shares may come in, they are the secret, and not ahead of the last one.
func TestEachOrder(t *testing.T) {
	for texts, want := range []int{1, 2, 6, 24, 120, 720} {
		shares := mustSplit(t, "a secret", someTexts(texts, 8)...)
		count := 0
		orders(shares, 0, func(l []string) {
			count++
			g := gathered(t, l[:texts]...)
			if s, is := g.Secret(); s != "" || is {
				t.Errorf("P6.3 Secret of all but %x: %x, %v", l[texts], s, is)
			}
			if err := g.Add(l[texts]); err != api.OK {
				t.Fatalf("P6.3 Add(%x): %v", l[texts], err)
			}
			if s, is := g.Secret(); s != "a secret" || !is {
				t.Errorf("P6.3 Secret of %x: %x, %v", l, s, is)
			}
		})
		if count != want {
			t.Errorf("P6.3 %d orders of %d shares, want %d", count, texts+1, want)
		}
	}
}

// TestOrdersOfMany: as many shares as may be are the secret, too, from each one on, forwards and backwards, and in steps.
func TestOrdersOfMany(t *testing.T) {
	secret := aSecret(api.MaxSecret)
	shares := mustSplit(t, secret, someTexts(api.MaxShares-1, api.MaxSecret)...)
	for first := range shares {
		for _, step := range []int{1, 3, 5, 7, 9, 11, 13, 15} {
			g := New()
			for i := range shares {
				if _, is := g.Secret(); is {
					t.Errorf("P6.3 Secret of %d of %d shares", i, len(shares))
				}
				if err := g.Add(shares[(first+i*step)%len(shares)]); err != api.OK {
					t.Fatalf("P6.3 Add: %v", err)
				}
			}
			has(t, g, 16, 16, secret, true)
		}
	}
}

// TestFewerTellNothing: whichever share is wanting, for each secret there is one share of its place, and no more, that makes the others that secret's.
func TestFewerTellNothing(t *testing.T) {
	for texts := range 4 {
		shares := mustSplit(t, "s", someTexts(texts, 1)...)
		for wanting := range shares {
			var seen [256]int
			for c := range 256 {
				l := slices.Clone(shares)
				l[wanting] = headed(wanting+1, texts+1, string([]byte{byte(c)}))
				secret, is := gathered(t, l...).Secret()
				if len(secret) != 1 || !is {
					t.Fatalf("P6.3 Secret of %x: %x, %v", l, secret, is)
				}
				seen[secret[0]]++
				splitAgain(t, secret, l)
			}
			for c, times := range seen {
				if times != 1 {
					t.Errorf("P6.3 without share %d of %d, %d shares of its place make the secret %d", wanting+1, texts+1, times, c)
				}
			}
		}
	}
}

// splitAgain says where a row of shares is not that of a secret, by its own texts.
func splitAgain(t *testing.T, secret string, row []string) {
	t.Helper()
	l := make([]string, 0, len(row))
	for _, s := range row[:len(row)-1] {
		l = append(l, s[2:])
	}
	if again := mustSplit(t, secret, l...); !slices.Equal(again, row) {
		t.Errorf("P6.3 Split(%x, %x): %x, want %x", secret, l, again, row)
	}
}

// TestFewerAreNone: of no choice of fewer shares there is a secret.
func TestFewerAreNone(t *testing.T) {
	const n = 6
	shares := mustSplit(t, "a secret", someTexts(n-1, 8)...)
	for choice := range 1 << n {
		g, count := New(), 0
		for i, s := range shares {
			if choice>>i&1 != 0 {
				count++
				if err := g.Add(s); err != api.OK {
					t.Fatalf("P6.3 Add(%x): %v", s, err)
				}
			}
		}
		s, is := g.Secret()
		if all := count == n; is != all || all != (s == "a secret") || !all && s != "" {
			t.Errorf("P6.3 Secret of %d of %d shares: %q, %v", count, n, s, is)
		}
	}
}
