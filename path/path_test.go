package path

import (
	"regexp"
	"slices"
	"strconv"
	"strings"
	"testing"

	"scrinium/sha"
	"scrinium/word"
)

// pieceBytes are all bytes that a piece may have, rising.
const pieceBytes = "-.0123456789_abcdefghijklmnopqrstuvwxyz"

// pathRule is a path by the chapter's words, but for how many bytes it has.
var pathRule = regexp.MustCompile(`\A[a-z0-9._-]{1,32}(/[a-z0-9._-]{1,32}){0,7}\z`)

// piecesByRule is a path's pieces by the chapter's words, made by no function of this package.
func piecesByRule(s string) (l []string, is bool) {
	if len(s) > 128 || !pathRule.MatchString(s) {
		return nil, false
	}
	from := 0
	for i := range len(s) {
		if s[i] == '/' {
			l = append(l, s[from:i])
			from = i + 1
		}
	}
	return append(l, s[from:]), true
}

// childByRule is a prefix's child by a path by the chapter's words, made by no function of this package.
func childByRule(prefix, s string) (string, bool) {
	var ahead []string
	if prefix != "" {
		l, is := piecesByRule(prefix)
		if !is {
			return "", false
		}
		ahead = l
	}
	all, is := piecesByRule(s)
	if !is || len(all) <= len(ahead) || !slices.Equal(all[:len(ahead)], ahead) {
		return "", false
	}
	if len(all) == len(ahead)+1 {
		return all[len(ahead)], true
	}
	return all[len(ahead)] + "/", true
}

// namesByRule is what Names answers by the chapter's words, made by no function of this package.
func namesByRule(prefix string, texts []string) []string {
	var l []string
	for _, s := range texts {
		child, is := childByRule(prefix, s)
		at := 0
		for at < len(l) && l[at] < child {
			at++
		}
		if is && (at == len(l) || l[at] != child) {
			l = slices.Insert(l, at, child)
		}
	}
	return l
}

// allTexts are all texts of bytes of an alphabet, up to so many, the shorter ones first.
func allTexts(alphabet string, most int) []string {
	l := []string{""}
	for from, size := 0, 1; size <= most; size++ {
		to := len(l)
		for _, s := range l[from:to] {
			for i := range len(alphabet) {
				l = append(l, s+alphabet[i:i+1])
			}
		}
		from = to
	}
	return l
}

// row is a path of n pieces of size bytes each, if there may be such a one.
func row(n, size int) string {
	return strings.TrimSuffix(strings.Repeat(strings.Repeat("a", size)+"/", n), "/")
}

// pathOf is a path whose pieces have these sizes, if there may be such a one.
func pathOf(sizes ...int) string {
	var l []string
	for i, n := range sizes {
		l = append(l, strings.Repeat(pieceBytes[i:i+1], n))
	}
	return strings.Join(l, "/")
}

// paths are some that are paths.
func paths() []string {
	l := []string{
		"a", "z", "0", "9", ".", "_", "-", "..", "...", "a.b", "a_b", "a-b", "-a", "a-", ".a", "_9",
		"a/b", "./.", "../..", "-/-", "_/_", "0/1/2", "app/db/password", "app/db.1/pass_word-2",
		pieceBytes[:32], pieceBytes[7:], row(1, 32), row(2, 32), row(3, 32), row(8, 1), row(8, 15), row(4, 31),
		pathOf(32, 32, 32, 29), pathOf(29, 32, 32, 32), pathOf(1, 32, 1, 32, 1, 32, 23), pathOf(16, 15, 15, 15, 15, 15, 15, 15), pathOf(1, 1, 1, 1, 32, 32, 32, 21),
	}
	for n := 1; n <= 8; n++ {
		l = append(l, row(n, 1), row(n, 2), row(n, 15))
	}
	return l
}

// noPaths are texts that are no paths.
func noPaths() []string {
	l := []string{
		"", "/", "//", "///", "/a", "a/", "/a/", "//a", "a//", "a//b", "a///b", "a/b/", "/a/b", "a/b//c", "a//b/c", "////////",
		"A", "Z", "aB", "Ab", "a/B", "A/b", "a b", " ", " a", "a ", "a/ b", "a\x00", "\x00", "a\n", "\na", "a\tb", "a\\b", "a:b", "a,b", "a+b", "a@b", "a`b", "a{b", "a*",
		"\xff", "a\xff", "\x80", "\xc3\xa9", "a/\xc3\xa9", "\xce\xb1", "\xef\xbd\x81", "\xd9\xa1", "\xe2\x88\x95", "a\xe2\x88\x95b", "a\xcc\x81", "\xc5\xbf", "\xef\xbb\xbfa",
		row(1, 33), row(1, 64), row(1, 128), row(1, 129), row(1, 256), row(1, 257), "a/" + row(1, 33), row(1, 33) + "/a", "a/" + row(1, 33) + "/b", row(1, 256+32),
		row(9, 1), row(16, 1), row(9, 13), row(64, 1), row(65, 1), row(128, 1), row(256+1, 1), row(256+8, 1),
		row(4, 32), row(8, 16), row(5, 25), pathOf(32, 32, 32, 30), pathOf(30, 32, 32, 32), pathOf(1, 32, 1, 32, 1, 32, 24), pathOf(16, 16, 15, 15, 15, 15, 15, 15), pathOf(1, 1, 1, 1, 32, 32, 32, 22), pathOf(32, 32, 32, 32, 32, 32, 32, 32),
		strings.Repeat("a", 1<<20), strings.Repeat("/", 1<<20), strings.Repeat("a/", 1<<20), strings.Repeat("a/", 1<<20) + "a",
	}
	for n := 1; n <= 8; n++ {
		l = append(l, row(n, 1)+"/", "/"+row(n, 1), row(n, 1)+"//a", row(n, 0)+"/")
	}
	return l
}

// short is a text, or, of a long one, its beginning and how many bytes it has.
func short(s string) string {
	if len(s) <= 140 {
		return strconv.Quote(s)
	}
	return strconv.Quote(s[:20]) + ".. of " + strconv.Itoa(len(s)) + " bytes"
}

// shortAll are the first of some texts, each as short has it, and how many there are.
func shortAll(l []string) string {
	s := strconv.Itoa(len(l)) + ":"
	for _, x := range l[:min(len(l), 20)] {
		s += " " + short(x)
	}
	return s
}

// seen says where a text is told as a path, or as none, and ought not to be: by each of the calls that see it.
func seen(t *testing.T, s string, path bool) {
	t.Helper()
	if May(s) != path {
		t.Errorf("P16.1 May(%s): %v", short(s), !path)
	}
	if (len(Pieces(s)) > 0) != path {
		t.Errorf("P16.1 Pieces(%s): %d pieces", short(s), len(Pieces(s)))
	}
	if want := path || s == ""; Prefix(s) != want {
		t.Errorf("P16.1 Prefix(%s): %v", short(s), !want)
	}
	if Under("", s) != path {
		t.Errorf("P16.1 Under nothing, %s: %v", short(s), !path)
	}
	if child, has := Child("", s); has != path || !path && child != "" {
		t.Errorf("P16.1 Child of nothing by %s: %s, %v", short(s), short(child), has)
	}
	if l := Names("", s); (len(l) == 1) != path || len(l) > 1 {
		t.Errorf("P16.2 Names of nothing by %s: %d", short(s), len(l))
	}
}

// under says where a child, and what hangs on it, is another one.
func under(t *testing.T, prefix, s, child string, has bool) {
	t.Helper()
	if Under(prefix, s) != has {
		t.Errorf("P16.1 Under(%s, %s): %v", short(prefix), short(s), !has)
	}
	if c, h := Child(prefix, s); c != child || h != has {
		t.Errorf("P16.1 Child(%s, %s): %s, %v, want %s, %v", short(prefix), short(s), short(c), h, short(child), has)
	}
}

// P16.1

func TestMayKnown(t *testing.T) {
	for _, s := range paths() {
		seen(t, s, true)
	}
	for _, s := range noPaths() {
		seen(t, s, false)
	}
}

// TestMayEachByte: each byte, as a piece, and wherever it stands in one, of a path of one piece and of more.
func TestMayEachByte(t *testing.T) {
	for i := range 256 {
		s := string([]byte{byte(i)})
		in := strings.Contains(pieceBytes, s)
		for _, ahead := range []string{"", "b/", "b/c/"} {
			for _, behind := range []string{"", "/d", "/d/e"} {
				seen(t, ahead+s+behind, in)
				seen(t, ahead+s+"xy"+behind, in)
				seen(t, ahead+"x"+s+"y"+behind, in || s == "/")
				seen(t, ahead+"xy"+s+behind, in)
				seen(t, ahead+s+s+behind, in)
				seen(t, ahead+s+row(1, 31)+behind, in)
				seen(t, ahead+row(1, 31)+s+behind, in)
			}
		}
	}
	if len(pieceBytes) != 26+10+3 {
		t.Errorf("the test has %d bytes of pieces", len(pieceBytes))
	}
}

// TestMayEachTwo: each two bytes that a piece may not have, or may, beside each other.
func TestMayEachTwo(t *testing.T) {
	for i := range 256 {
		for j := range 256 {
			s := string([]byte{byte(i), byte(j)})
			want := strings.Contains(pieceBytes, s[:1]) && strings.Contains(pieceBytes, s[1:])
			if May(s) != want || Prefix(s) != want || (len(Pieces(s)) == 1) != want {
				t.Errorf("P16.1 May(%q): %v, want %v", s, May(s), want)
			}
		}
	}
}

// TestMayPieceSize: a piece has 1 to MaxPiece bytes, wherever it stands.
func TestMayPieceSize(t *testing.T) {
	for n := range 600 {
		piece := strings.Repeat("k", n)
		want := n >= 1 && n <= 32
		seen(t, piece, want)
		seen(t, piece+"/a", want)
		seen(t, "a/"+piece, want)
		seen(t, "a/"+piece+"/b", want)
		seen(t, "a/b/c/d/e/f/g/"+piece, want)
		seen(t, piece+"/b/c/d/e/f/g/h", want)
	}
}

// TestMayPieces: a path has 1 to MaxPieces pieces, of however many bytes.
func TestMayPieces(t *testing.T) {
	for n := 1; n <= 300; n++ {
		seen(t, row(n, 1), n <= 8)
		seen(t, row(n, 15), n <= 8)
		seen(t, "bc/"+row(n, 1), n <= 7)
		seen(t, row(n, 1)+"/"+row(1, 32), n <= 7)
	}
}

// TestMayBytes: a path has MaxPath bytes at most, where each of its pieces might be one.
func TestMayBytes(t *testing.T) {
	for n := 1; n <= 8; n++ {
		for size := 1; size <= 32; size++ {
			seen(t, row(n, size), n*(size+1)-1 <= 128)
		}
	}
	for last := 1; last <= 32; last++ {
		seen(t, pathOf(32, 32, 32, last), last <= 29)
		seen(t, pathOf(last, 32, 32, 32), last <= 29)
		seen(t, pathOf(32, last, 32, 32), last <= 29)
		seen(t, pathOf(20, 20, 20, 20, 20, last), last <= 23)
		seen(t, pathOf(15, 15, 15, 15, 15, 15, 15, last), last <= 16)
		seen(t, pathOf(1, 1, 1, 1, 32, 32, 32, last), last <= 21)
		seen(t, pathOf(1, 32, 1, 32, 1, 32, last), last <= 23)
	}
}

// TestPiecesAll: what all short texts tell was worked out elsewhere, and is by the chapter's rule.
func TestPiecesAll(t *testing.T) {
	var all []string
	count := 0
	for _, s := range allTexts("a-/A", 7) {
		l, path := piecesByRule(s)
		seen(t, s, path)
		if got := Pieces(s); !slices.Equal(got, l) {
			t.Errorf("P16.1 Pieces(%s): %q, want %q", s, got, l)
		}
		told := "0"
		if May(s) {
			told = strings.Join(Pieces(s), "|")
			count++
		}
		all = append(all, told+"\n")
	}
	const want = "dfface6e00a874b1cac5fc80181aae06d2af92582b350b8238093c2ee0c9a2b8"
	if s := word.Hex(sha.Of(all...)); len(all) != 21845 || count != 1034 || s != want {
		t.Errorf("P16.1 Pieces of all short texts: of %d %d paths, the sum %s, want %s", len(all), count, s, want)
	}
}

func TestPiecesKnown(t *testing.T) {
	for s, want := range map[string][]string{
		"a":                    {"a"},
		".":                    {"."},
		"a/b":                  {"a", "b"},
		"a/a":                  {"a", "a"},
		"app/db.1/pass_word-2": {"app", "db.1", "pass_word-2"},
		"1/2/3/4/5/6/7/8":      {"1", "2", "3", "4", "5", "6", "7", "8"},
		row(1, 32):             {row(1, 32)},
		row(3, 32):             {row(1, 32), row(1, 32), row(1, 32)},
		pathOf(32, 32, 32, 29): {strings.Repeat("-", 32), strings.Repeat(".", 32), strings.Repeat("0", 32), strings.Repeat("1", 29)},
	} {
		if l := Pieces(s); !slices.Equal(l, want) {
			t.Errorf("P16.1 Pieces(%s): %q, want %q", s, l, want)
		}
	}
	for _, s := range noPaths() {
		if l := Pieces(s); len(l) != 0 {
			t.Errorf("P16.1 Pieces(%s): %d pieces of what is no path", short(s), len(l))
		}
	}
}

// TestPiecesNew: an answer is a list of its own.
func TestPiecesNew(t *testing.T) {
	one, other := Pieces("a/b/c"), Pieces("a/b/c")
	one[0], one[1] = "x", "y"
	one = append(one[:1], "z")
	if !slices.Equal(other, []string{"a", "b", "c"}) || !slices.Equal(Pieces("a/b/c"), []string{"a", "b", "c"}) {
		t.Errorf("P16.1 Pieces: %q behind a change of %q", other, one)
	}
}

func TestPrefixKnown(t *testing.T) {
	if !Prefix("") || May("") {
		t.Errorf("P16.1 nothing: Prefix %v, May %v", Prefix(""), May(""))
	}
	for _, s := range paths() {
		if !Prefix(s) {
			t.Errorf("P16.1 Prefix(%s): false", s)
		}
	}
	for _, s := range noPaths() {
		if s != "" && Prefix(s) {
			t.Errorf("P16.1 Prefix(%s): true", short(s))
		}
	}
}

func TestChildKnown(t *testing.T) {
	for _, c := range []struct{ prefix, s, child string }{
		{"", "a", "a"}, {"", "a/b", "a/"}, {"", "a/b/c", "a/"}, {"", "abc", "abc"}, {"", "abc/d", "abc/"},
		{"a", "a/b", "b"}, {"a", "a/b/c", "b/"}, {"a", "a/b/c/d", "b/"}, {"a", "a/a", "a"}, {"a", "a/a/a", "a/"},
		{"a/b", "a/b/c", "c"}, {"a/b", "a/b/c/d", "c/"}, {"a/a", "a/a/a", "a"}, {"ab", "ab/c", "c"}, {"app/db", "app/db/pass.1", "pass.1"},
		{".", "./..", ".."}, {"a", "a/-", "-"}, {"a", "a/b-c/d", "b-c/"},
		{"1/2/3/4/5/6/7", "1/2/3/4/5/6/7/8", "8"}, {"1/2/3/4/5/6", "1/2/3/4/5/6/7/8", "7/"}, {"", "1/2/3/4/5/6/7/8", "1/"},
		{"", row(1, 32), row(1, 32)}, {"", row(2, 32), row(1, 32) + "/"}, {row(1, 32), row(2, 32), row(1, 32)}, {row(1, 32), row(3, 32), row(1, 32) + "/"},
		{row(3, 32), row(3, 32) + "/" + row(1, 29), row(1, 29)}, {pathOf(32, 32, 32, 27), pathOf(32, 32, 32, 27) + "/b", "b"},
	} {
		under(t, c.prefix, c.s, c.child, true)
	}
}

func TestChildOfNone(t *testing.T) {
	for _, c := range []struct{ prefix, s string }{
		{"a", "a"}, {"a/b", "a/b"}, {row(8, 1), row(8, 1)}, {row(8, 15), row(8, 15)}, {pathOf(32, 32, 32, 29), pathOf(32, 32, 32, 29)}, // the path itself
		{"a", "ab"}, {"a", "ab/c"}, {"a/b", "a/bc"}, {"a/b", "a/bc/d"}, {"ab", "abc/d"}, {"a", "a.b"}, {"a", "a-"}, {"a", "aa/a"}, {row(1, 31), row(2, 32)}, // its beginning, within a piece
		{"a/b", "a"}, {"a/b/c", "a/b"}, {"ab", "a"}, {"a/b/c", "a"}, {row(8, 1), row(7, 1)}, {pathOf(32, 32, 32, 29), pathOf(32, 32, 32)}, // a longer one
		{"b", "a"}, {"b", "a/b"}, {"b", "a/b/c"}, {"b/c", "a/b/c"}, {"a/c", "a/b/c"}, {"a/b/c", "a/b/d/e"}, {"a.b", "a/b/c"}, {"a/b/c", "a/b-c/d"}, // another one
		{"/", "a"}, {"a/", "a/b"}, {"/a", "a/b"}, {"/a", "/a/b"}, {"a/", "a//b"}, {"A", "A/b"}, {"A", "a/b"}, {"a b", "a b/c"}, {"//", "///a"}, {row(9, 1), row(9, 1) + "/a"}, {row(1, 33), row(1, 33) + "/a"}, {"\xff", "\xff/a"}, // no prefix
		{"", ""}, {"", "/"}, {"", "/a"}, {"", "a/"}, {"", "A"}, {"a", ""}, {"a", "/"}, {"a", "a/"}, {"a", "a//"}, {"a", "a//b"}, {"a", "a/b/"}, {"a", "a/B"}, {"a", "/a/b"}, {"a", "a/b c"}, {"a", "a/" + row(1, 33)}, {"a", "a/" + row(8, 1)}, {row(8, 1), row(9, 1)}, {row(7, 1), row(9, 1)}, // no path
		{pathOf(32, 32, 32, 28), pathOf(32, 32, 32, 28) + "/b"}, {pathOf(32, 32, 32, 27), pathOf(32, 32, 32, 27) + "/bc"}, {pathOf(32, 32, 32, 29), pathOf(32, 32, 32, 29) + "/b"}, {row(3, 32), row(4, 32)}, // a path that is too long
	} {
		under(t, c.prefix, c.s, "", false)
		if l := Names(c.prefix, c.s, c.s); len(l) != 0 {
			t.Errorf("P16.2 Names(%s, %s): %q", short(c.prefix), short(c.s), l)
		}
	}
}

// TestChildNoTexts: under no prefix is nothing, and what is no path is under nothing.
func TestChildNoTexts(t *testing.T) {
	for _, s := range noPaths() {
		for _, other := range []string{"", "a", "a/b", "A", s} {
			under(t, other, s, "", false)
		}
		if s == "" {
			continue
		}
		for _, other := range []string{"a", "a/b", s + "/a", s + "a", "a" + s, "a/" + s} {
			under(t, s, other, "", false)
		}
	}
}

// TestChildAll: what each two short texts tell was worked out elsewhere, and is by the chapter's rule.
func TestChildAll(t *testing.T) {
	var all []string
	count := 0
	texts := allTexts("ab/", 5)
	for _, prefix := range texts {
		for _, s := range texts {
			want, has := childByRule(prefix, s)
			under(t, prefix, s, want, has)
			told := "0"
			if child, has := Child(prefix, s); has {
				told = child
				count++
			}
			all = append(all, told+"\n")
		}
	}
	const want = "627ea875eba489332dbe396f31c3e45537f350310efab165f4c52ee778261d81"
	if s := word.Hex(sha.Of(all...)); count != 222 || s != want {
		t.Errorf("P16.1 Child of all short texts: %d, the sum %s, want %s", count, s, want)
	}
}

// TestChildEach: each two of some paths and some texts that are none are by the chapter's rule.
func TestChildEach(t *testing.T) {
	l := slices.Concat(paths(), noPaths(), allTexts("a/", 7))
	for _, prefix := range l {
		for _, s := range l {
			if len(prefix)+len(s) > 1<<10 {
				continue
			}
			want, has := childByRule(prefix, s)
			under(t, prefix, s, want, has)
		}
	}
}

// P16.2

// names says where Names answers something else; the texts are told from the front, and from behind.
func names(t *testing.T, prefix string, texts []string, want ...string) {
	t.Helper()
	back := slices.Clone(texts)
	slices.Reverse(back)
	for _, l := range [][]string{texts, back, slices.Concat(texts, back)} {
		if got := Names(prefix, l...); !slices.Equal(got, want) {
			t.Errorf("P16.2 Names(%s, %s): %s, want %s", short(prefix), shortAll(l), shortAll(got), shortAll(want))
		}
	}
}

// TestNamesExample is the chapter's.
func TestNamesExample(t *testing.T) {
	names(t, "a", []string{"a/b", "a/b/c", "a/x", "b"}, "b", "b/", "x")
}

func TestNamesKnown(t *testing.T) {
	names(t, "", nil)
	names(t, "", []string{})
	names(t, "a", nil)
	names(t, "a", []string{"a", "b", "b/a", "ab/c", "a.b"})
	names(t, "a/b", []string{"a", "a/b", "a/c", "a/bc/d", "b/a/b/c"})
	names(t, "", []string{"a"}, "a")
	names(t, "", []string{"a", "a", "a"}, "a")
	names(t, "", []string{"a/b", "a/b"}, "a/")
	names(t, "", []string{"a/b", "a/c", "a/b/d"}, "a/")
	names(t, "", []string{"a", "a/b"}, "a", "a/")
	names(t, "a", []string{"a/b/c", "a/b", "a/b/d"}, "b", "b/")
	names(t, "a", []string{"a/b/c", "a/b/d", "a/b/c/e"}, "b/")
	names(t, "a/b", []string{"a/b/c", "a/b/d/e", "a/b/d/f", "a/b", "a/c/d"}, "c", "d/")
	names(t, "", []string{"b", "a/x", "c", "a"}, "a", "a/", "b", "c")
	names(t, "", []string{"aa", "a", "aaa", "ab", "b"}, "a", "aa", "aaa", "ab", "b")
	names(t, row(7, 1), []string{row(8, 1), row(7, 1) + "/b", row(7, 1), row(6, 1) + "/b/a"}, "a", "b")
	names(t, row(8, 1), []string{row(8, 1), row(9, 1), row(7, 1)})
	names(t, pathOf(32, 32, 32, 27), []string{pathOf(32, 32, 32, 27) + "/b", pathOf(32, 32, 32, 27) + "/a", pathOf(32, 32, 32, 27) + "/ab"}, "a", "b")
}

// TestNamesByBytes: children rise by their bytes; a slash stands behind a hyphen and a dot, ahead of all others.
func TestNamesByBytes(t *testing.T) {
	texts := []string{"p/a", "p/a/b", "p/a-", "p/a.", "p/a0", "p/a9", "p/a_", "p/aa", "p/az", "p/a-/b", "p/a./b", "p/-", "p/.", "p/0", "p/_", "p/b"}
	names(t, "p", texts, "-", ".", "0", "_", "a", "a-", "a-/", "a.", "a./", "a/", "a0", "a9", "a_", "aa", "az", "b")
	texts = nil
	var want []string
	for i := range len(pieceBytes) {
		texts = append(texts, "p/"+pieceBytes[i:i+1], "p/"+pieceBytes[i:i+1]+"/q")
		want = append(want, pieceBytes[i:i+1], pieceBytes[i:i+1]+"/")
	}
	names(t, "p", texts, want...)
}

// TestNamesAmongOthers: texts that are no paths are as if they were not there.
func TestNamesAmongOthers(t *testing.T) {
	texts := []string{"a/b", "a/b/c", "a/x", "b"}
	names(t, "a", slices.Concat(noPaths(), texts, noPaths()), "b", "b/", "x")
	names(t, "", slices.Concat(noPaths(), texts), "a/", "b")
	names(t, "", noPaths())
	names(t, "a", noPaths())
	for i, s := range noPaths() {
		names(t, "a", slices.Insert(slices.Clone(texts), i%(len(texts)+1), s), "b", "b/", "x")
	}
}

// TestNamesOfNoPrefix: of what is no prefix there are none, whatever the texts begin with.
func TestNamesOfNoPrefix(t *testing.T) {
	for _, s := range noPaths() {
		if s != "" {
			names(t, s, []string{"a", "a/b", s + "/a", s + "a", s, ""})
		}
	}
}

// TestNamesAnyOrder: each order of some texts tells the same.
func TestNamesAnyOrder(t *testing.T) {
	texts := []string{"a/b", "a/b/c", "a/x", "b", "a/b/d", "a/-", "a//"}
	var each func(l []string, from int)
	count := 0
	each = func(l []string, from int) {
		if from == len(l) {
			count++
			if got := Names("a", l...); !slices.Equal(got, []string{"-", "b", "b/", "x"}) {
				t.Errorf("P16.2 Names(a, %q): %q", l, got)
			}
			return
		}
		for i := from; i < len(l); i++ {
			l[from], l[i] = l[i], l[from]
			each(l, from+1)
			l[from], l[i] = l[i], l[from]
		}
	}
	each(texts, 0)
	if count != 5040 {
		t.Errorf("the test tried %d orders", count)
	}
}

// TestNamesAll: what all short texts have under each of them was worked out elsewhere, and is by the chapter's rule.
func TestNamesAll(t *testing.T) {
	var all []string
	texts := allTexts("ab/", 5)
	for _, prefix := range texts {
		names(t, prefix, texts, namesByRule(prefix, texts)...)
		all = append(all, strings.Join(Names(prefix, texts...), ",")+"\n")
	}
	const want = "910a8cd48dfb3966dd21512e754ff6a774e41e4baf08f24a61234029444ea63a"
	if s := word.Hex(sha.Of(all...)); s != want {
		t.Errorf("P16.2 Names of all short texts: the sum %s, want %s", s, want)
	}
}

// TestNamesEach: each three of some texts, under some prefixes, are by the chapter's rule.
func TestNamesEach(t *testing.T) {
	texts := []string{"", "/", "a", "b", "ab", "a/", "a/b", "a/a", "a/b/a", "a/a/b", "a/b-", "b/a/b", "a/b/", "A", "a//b"}
	for _, prefix := range []string{"", "a", "a/b", "b", "ab", "a/", "/", "A", "c"} {
		for _, x := range texts {
			for _, y := range texts {
				for _, z := range texts {
					l := []string{x, y, z}
					if got, want := Names(prefix, l...), namesByRule(prefix, l); !slices.Equal(got, want) {
						t.Errorf("P16.2 Names(%s, %q): %q, want %q", prefix, l, got, want)
					}
				}
			}
		}
	}
}

// TestNamesMany: many children, and many paths of each.
func TestNamesMany(t *testing.T) {
	var texts, want []string
	for i := range 2000 {
		n := strconv.Itoa(100000 + i*37%2000)
		texts = append(texts, "a/"+n+"/x", "a/"+n+"/y", "a/"+n, "b/"+n)
		want = append(want, strconv.Itoa(100000+i), strconv.Itoa(100000+i)+"/")
	}
	names(t, "a", texts, want...)
	names(t, "", texts, "a/", "b/")
}

// TestNamesKeepsTexts: a caller's slice is left as it was, with what stands behind its end.
func TestNamesKeepsTexts(t *testing.T) {
	all := []string{"a/x", "b", "a/b/c", "a/b", "A", "a/b", "a/z", "a/y"}
	for n := range len(all) + 1 {
		l := slices.Clone(all)
		for _, prefix := range []string{"", "a", "a/b", "A", "/"} {
			got := Names(prefix, l[:n]...)
			if want := namesByRule(prefix, all[:n]); !slices.Equal(got, want) {
				t.Errorf("P16.2 Names(%s, %q): %q, want %q", prefix, all[:n], got, want)
			}
			for i := range got {
				got[i] = "changed"
			}
			_ = append(got, "more")
			if !slices.Equal(l, all) {
				t.Fatalf("P16.2 Names(%s, %q) left %q", prefix, all[:n], l)
			}
		}
	}
}

// TestNamesNew: an answer is a list of its own.
func TestNamesNew(t *testing.T) {
	one, other := Names("a", "a/b", "a/c"), Names("a", "a/b", "a/c")
	one[0] = "x"
	one = append(one[:1], "y")
	if !slices.Equal(other, []string{"b", "c"}) || !slices.Equal(Names("a", "a/b", "a/c"), []string{"b", "c"}) {
		t.Errorf("P16.2 Names: %q behind a change of %q", other, one)
	}
}

// P16.3

// somePaths are paths of up to eight pieces, among which many are under others, or begin as these do.
func somePaths() []string {
	var l []string
	for _, s := range slices.Concat(paths(), allTexts("ab/", 5), allTexts("a/", 15)) {
		if May(s) {
			l = append(l, s)
		}
	}
	return l
}

// TestJoined: pieces with slashes between are the path, and each of them is a path.
func TestJoined(t *testing.T) {
	for _, s := range somePaths() {
		l := Pieces(s)
		if strings.Join(l, "/") != s || len(l) != strings.Count(s, "/")+1 {
			t.Errorf("P16.3 Pieces(%s): %q", s, l)
		}
		for _, piece := range l {
			if !May(piece) || len(Pieces(piece)) != 1 {
				t.Errorf("P16.3 Pieces(%s): %q is none", s, piece)
			}
		}
	}
}

// TestUnderShorter: a path is under each beginning of its pieces, nothing too, by which its children are its pieces, and under nothing else.
func TestUnderShorter(t *testing.T) {
	for _, s := range somePaths() {
		l := Pieces(s)
		for n := range len(l) {
			child := l[n]
			if n+1 < len(l) {
				child += "/"
			}
			under(t, strings.Join(l[:n], "/"), s, child, true)
		}
		count := 0
		for size := range len(s) + 1 {
			if Under(s[:size], s) {
				count++
			}
		}
		if count != len(l) {
			t.Errorf("P16.3 %s is under %d of its beginnings, want %d", s, count, len(l))
		}
	}
}

// TestUnderLonger: what is under a longer prefix is under each shorter one, with the same child there as the longer prefix.
func TestUnderLonger(t *testing.T) {
	texts := append(allTexts("ab/", 4), "a/b/a/b", "a/b/a/b/a", "b/b/a/ab/b", "ab/ab/ab")
	count := 0
	for _, near := range texts {
		for _, far := range texts {
			if !Under(near, far) {
				continue
			}
			for _, s := range texts {
				if !Under(far, s) {
					continue
				}
				count++
				if !Under(near, s) {
					t.Errorf("P16.3 %q is under %q, and not under %q", s, far, near)
				}
				one, _ := Child(near, far)
				other, _ := Child(near, s)
				if other != strings.TrimSuffix(one, "/")+"/" {
					t.Errorf("P16.3 %q has the child %q by %q, and %q by %q", near, one, far, other, s)
				}
			}
		}
	}
	if count == 0 {
		t.Error("P16.3 nothing is under a prefix that is under another one")
	}
}
