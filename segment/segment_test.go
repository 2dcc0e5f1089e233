package segment

import (
	"fmt"
	"math"
	"slices"
	"strings"
	"testing"
	"unsafe"

	"scrinium/api"
	"scrinium/frame"
	"scrinium/wire"
	"scrinium/word"
)

const (
	more  = api.SegmentMore
	begin = api.SegmentFirst
	most  = api.MaxNumber
)

// unhex is the bytes of a hex text that stands in a test.
func unhex(s string) string {
	b, is := word.Unhex(s)
	if !is {
		panic("no hex text: " + s)
	}
	return b
}

// framed is the frame of a text, made by layer 10.
func framed(number uint64, text string) string {
	s, err := frame.Encode(api.Record{Number: number, Text: text})
	if err != api.OK {
		panic("no frame: " + err.Error())
	}
	return s
}

// framesOf are the frames of texts, with numbers from one on.
func framesOf(number uint64, texts ...string) string {
	s := ""
	for i, text := range texts {
		s += framed(number+uint64(i), text)
	}
	return s
}

// headByRule is a head by the chapter's words, made by no function of this package.
func headByRule(x api.Segment) string {
	return framed(x.First, string([]byte{x.Kind})+wire.Uints(x.Gen)+x.Text)
}

// byRule is all bytes of a segment by the chapter's words.
func byRule(x api.Segment) string { return headByRule(x) + framesOf(x.First, x.Records...) }

// written is a segment as it is read where s is all that it has.
func written(x api.Segment, s string) api.Segment {
	x.Used, x.Whole = len(s), true
	return x
}

// same tells whether two segments have the same in all.
func same(a, b api.Segment) bool {
	return a.Kind == b.Kind && a.Gen == b.Gen && a.First == b.First && a.Text == b.Text && slices.Equal(a.Records, b.Records) && a.Used == b.Used && a.Whole == b.Whole
}

// show is a segment as a test tells it.
func show(x api.Segment) string {
	return fmt.Sprintf("{%d gen %d first %d, %.20q (%d bytes), %d records %.60q, used %d, whole %v}", x.Kind, x.Gen, x.First, x.Text, len(x.Text), len(x.Records), x.Records, x.Used, x.Whole)
}

// heads says where Head answers other bytes or another error, or Bytes of no records does.
func heads(t *testing.T, about string, x api.Segment, want string, e api.Errno) {
	t.Helper()
	if got, err := Head(x.Kind, x.Gen, x.First, x.Text); got != want || err != e {
		t.Errorf("%s: Head: %.40x (%d bytes), %v, want %.40x (%d bytes), %v", about, got, len(got), err, want, len(want), e)
	}
	if got, err := Bytes(x); got != want || err != e {
		t.Errorf("%s: Bytes: %.40x (%d bytes), %v, want %.40x (%d bytes), %v", about, got, len(got), err, want, len(want), e)
	}
}

// bytesAre says where Bytes answers other ones, or another error.
func bytesAre(t *testing.T, about string, x api.Segment, want string, e api.Errno) {
	t.Helper()
	if got, err := Bytes(x); got != want || err != e {
		t.Errorf("%s: %.60x (%d bytes), %v, want %.60x (%d bytes), %v", about, got, len(got), err, want, len(want), e)
	}
}

// parses says where Parse answers another segment.
func parses(t *testing.T, about, s string, want api.Segment) {
	t.Helper()
	if x, err := Parse(s); !same(x, want) || err != api.OK {
		t.Errorf("%s: %s, %v, want %s, OK", about, show(x), err, show(want))
	}
}

// refuses says where Parse answers another error, or something beside it.
func refuses(t *testing.T, about, s string, want api.Errno) {
	t.Helper()
	if x, err := Parse(s); !same(x, api.Segment{}) || err != want {
		t.Errorf("%s: %s, %v, want nothing, %v", about, show(x), err, want)
	}
}

// rows says where Row answers other places, or another error.
func rows(t *testing.T, about string, l []api.Segment, want []int, e api.Errno) {
	t.Helper()
	if got, err := Row(l...); !slices.Equal(got, want) || err != e {
		t.Errorf("%s: %v, %v, want %v, %v", about, got, err, want, e)
	}
}

// pattern is n bytes that repeat only after 256, from one of them on.
func pattern(n, from int) string {
	b := make([]byte, n)
	for i := range b {
		b[i] = byte((i+from)*7 + 3)
	}
	return string(b)
}

// within tells whether a text stands in the memory of another one.
func within(text, other string) bool {
	p, at := uintptr(unsafe.Pointer(unsafe.StringData(text))), uintptr(unsafe.Pointer(unsafe.StringData(other)))
	return p >= at && p < at+uintptr(len(other))
}

// someNumbers are numbers that may be, of each length that they have as bytes.
func someNumbers() []uint64 {
	l := []uint64{1, 2, 3, 300, 0x010203040506, most - 1, most}
	for i := 7; i < 48; i += 7 {
		l = append(l, 1<<i-1, 1<<i)
	}
	return l
}

// noNumbers are such as may not be.
func noNumbers() []uint64 {
	return []uint64{0, most + 1, most + 2, 2 * most, most + 1<<63, 1 << 63, math.MaxUint64 - 1, math.MaxUint64}
}

// noKinds are such as are neither of both.
func noKinds() []uint8 { return []uint8{2, 3, 127, 128, 129, 254, 255} }

// someSegments are such as may be, of all sorts.
func someSegments() []api.Segment {
	return []api.Segment{
		{Kind: begin, Gen: 1, First: 1},
		{Kind: more, Gen: 1, First: 1},
		{Kind: begin, Gen: 1, First: 1, Text: "abc", Records: []string{"x", "", "yz"}},
		{Kind: more, Gen: 300, First: 70000, Records: []string{"", "", "\x00\xff", ""}},
		{Kind: begin, Gen: most, First: most, Text: "\x01\x01", Records: []string{"last"}},
		{Kind: more, Gen: most, First: most, Records: []string{"last"}},
		{Kind: begin, Gen: 128, First: most - 2, Text: "\x80", Records: []string{"a", "b", "c"}},
		{Kind: more, Gen: 127, First: most},
		{Kind: begin, Gen: 2, First: 5, Text: pattern(300, 0), Records: []string{pattern(40, 3), framed(6, "a"), headByRule(api.Segment{Kind: begin, Gen: 1, First: 7})}},
	}
}

// P11.1

// TestHeadKnown: the heads were worked out elsewhere; the first one is the chapter's example.
func TestHeadKnown(t *testing.T) {
	for _, c := range []struct {
		x    api.Segment
		want string
	}{
		{api.Segment{Kind: begin, Gen: 1, First: 1, Text: "abc"}, "000000050000000000000001c9a99a700101616263"},
		{api.Segment{Kind: begin, Gen: 1, First: 1}, "000000020000000000000001e609abe60101"},
		{api.Segment{Kind: more, Gen: 1, First: 1}, "000000020000000000000001ff129aa70001"},
		{api.Segment{Kind: more, Gen: 300, First: 7}, "000000030000000000000007d1267b6700ac02"},
		{api.Segment{Kind: begin, Gen: most, First: most, Text: "\xff\x00"}, "0000000a0001000000000000a191074d0180808080808040ff00"},
		{api.Segment{Kind: more, Gen: most, First: 1}, "00000008000000000000000198cdfa880080808080808040"},
		{api.Segment{Kind: begin, Gen: 127, First: 128, Text: "\x01\x01"}, "00000004000000000000008014e9d88e017f0101"},
		{api.Segment{Kind: begin, Gen: 128, First: most - 1, Text: "a"}, "000000040000ffffffffffff64f0c66001800161"},
		{api.Segment{Kind: more, Gen: 16384, First: 0x010203040506}, "000000040000010203040506e5ca96c500808001"},
	} {
		heads(t, "P11.1 the head of "+show(c.x), c.x, unhex(c.want), api.OK)
	}
	if s, err := Head(api.SegmentFirst, 1, 1, "abc"); len(s) != 21 || err != api.OK {
		t.Errorf("P11.1 Head(SegmentFirst, 1, 1, abc): %d bytes, %v, want 21, OK", len(s), err)
	}
}

func TestHeadByTheRule(t *testing.T) {
	for _, gen := range someNumbers() {
		for _, first := range someNumbers() {
			for _, text := range []string{"", "a", "\x00", pattern(500, 1)} {
				x := api.Segment{Kind: begin, Gen: gen, First: first, Text: text}
				heads(t, "P11.1 "+show(x), x, headByRule(x), api.OK)
			}
			x := api.Segment{Kind: more, Gen: gen, First: first}
			heads(t, "P11.1 "+show(x), x, headByRule(x), api.OK)
		}
	}
}

// TestHeadWhatMayNotBe: each of the four alone is refused, and all together.
func TestHeadWhatMayNotBe(t *testing.T) {
	for _, kind := range noKinds() {
		for _, text := range []string{"", "a"} {
			x := api.Segment{Kind: kind, Gen: 1, First: 1, Text: text}
			heads(t, "P11.1 a kind that is neither: "+show(x), x, "", api.ErrArg)
		}
	}
	for _, kind := range []uint8{more, begin} {
		for _, n := range noNumbers() {
			x := api.Segment{Kind: kind, Gen: n, First: 1}
			heads(t, "P11.1 a generation that may not be: "+show(x), x, "", api.ErrArg)
			x = api.Segment{Kind: kind, Gen: 1, First: n}
			heads(t, "P11.1 a first number that may not be: "+show(x), x, "", api.ErrArg)
		}
	}
	for _, text := range []string{"a", "\x00", pattern(100, 0), strings.Repeat("a", api.MaxRecord-2)} {
		x := api.Segment{Kind: more, Gen: 1, First: 1, Text: text}
		heads(t, "P11.1 a text of SegmentMore: "+show(x), x, "", api.ErrArg)
	}
	x := api.Segment{Kind: 2, Gen: 0, First: most + 1, Text: "a"}
	heads(t, "P11.1 nothing of it may be", x, "", api.ErrArg)
}

// TestHeadLong: the frame's text has the kind and the generation, too, which has one byte to seven.
func TestHeadLong(t *testing.T) {
	for _, gen := range someNumbers() {
		room := api.MaxRecord - 1 - len(wire.Uints(gen))
		text := pattern(room, int(gen%5))
		x := api.Segment{Kind: begin, Gen: gen, First: 9, Text: text}
		s := headByRule(x)
		if len(s) != api.FrameMore+api.MaxRecord {
			t.Fatalf("P11.1 a head of %d bytes, want MaxRecord and a frame's more", len(s))
		}
		heads(t, fmt.Sprintf("P11.1 gen %d: a frame's text of MaxRecord bytes", gen), x, s, api.OK)
		for _, over := range []string{"x", "xy", text} {
			x.Text = text + over
			heads(t, fmt.Sprintf("P11.1 gen %d: %d bytes more than MaxRecord", gen, len(over)), x, "", api.ErrLong)
		}
	}
}

// TestHeadOrder: what may not be is told ahead of what is too long.
func TestHeadOrder(t *testing.T) {
	long := strings.Repeat("a", api.MaxRecord+1)
	for _, x := range []api.Segment{
		{Kind: 2, Gen: 1, First: 1, Text: long},
		{Kind: begin, Gen: 0, First: 1, Text: long},
		{Kind: begin, Gen: most + 1, First: 1, Text: long},
		{Kind: begin, Gen: 1, First: 0, Text: long},
		{Kind: begin, Gen: 1, First: most + 1, Text: long},
		{Kind: more, Gen: 1, First: 1, Text: long},
	} {
		heads(t, "P11.1 too long as well: "+show(x), x, "", api.ErrArg)
	}
}

// TestBytesKnown: the bytes were worked out elsewhere.
func TestBytesKnown(t *testing.T) {
	for _, c := range []struct {
		x    api.Segment
		want string
	}{
		{api.Segment{Kind: begin, Gen: 1, First: 1, Text: "abc", Records: []string{"x", "", "yz"}}, "000000050000000000000001c9a99a700101616263000000010000000000000001a773e5f37800000000000000000000000295dba743000000020000000000000003c5bc24c2797a"},
		{api.Segment{Kind: more, Gen: 300, First: most - 1, Records: []string{"\xff", "a"}}, "000000030000ffffffffffff416669f200ac02000000010000ffffffffffff829b2b2fff00000001000100000000000016a97cec61"},
		{api.Segment{Kind: begin, Gen: 2, First: 9}, "0000000200000000000000097113abe40102"},
	} {
		bytesAre(t, "P11.1 Bytes of "+show(c.x), c.x, unhex(c.want), api.OK)
	}
}

// TestBytesByTheRule: Used and Whole count for nothing, whatever they are.
func TestBytesByTheRule(t *testing.T) {
	for _, x := range someSegments() {
		want := byRule(x)
		for _, used := range []int{0, 1, -1, len(want), len(want) - 1, math.MaxInt, math.MinInt} {
			for _, whole := range []bool{false, true} {
				x.Used, x.Whole = used, whole
				bytesAre(t, "P11.1 Bytes of "+show(x), x, want, api.OK)
			}
		}
	}
}

// TestBytesUpToMaxNumber: a record's number is at most that; the number behind the last one may be one more.
func TestBytesUpToMaxNumber(t *testing.T) {
	for count := range 6 {
		l := slices.Repeat([]string{"a"}, count)
		for first := uint64(most - 6); first <= most; first++ {
			x := api.Segment{Kind: more, Gen: 3, First: first, Records: l}
			want, e := "", api.ErrArg
			if first+uint64(count) <= most+1 {
				want, e = byRule(x), api.OK
			}
			bytesAre(t, fmt.Sprintf("P11.1 Bytes of %d records from MaxNumber - %d on", count, most-first), x, want, e)
		}
	}
	for _, n := range []uint64{most + 1, math.MaxUint64} {
		bytesAre(t, "P11.1 Bytes of a record of a number beyond all", api.Segment{Kind: begin, Gen: 1, First: n, Records: []string{"a"}}, "", api.ErrArg)
	}
}

func TestBytesLong(t *testing.T) {
	just := pattern(api.MaxRecord, 0)
	for _, l := range [][]string{{just}, {"a", just}, {just, just, "", just}} {
		x := api.Segment{Kind: begin, Gen: 1, First: 1, Text: "t", Records: l}
		bytesAre(t, "P11.1 Bytes of records of MaxRecord bytes", x, byRule(x), api.OK)
	}
	for _, l := range [][]string{{just + "x"}, {"a", just + "x"}, {just + "x", "a"}, {"a", just + just, "b"}} {
		x := api.Segment{Kind: begin, Gen: 1, First: 1, Text: "t", Records: l}
		bytesAre(t, "P11.1 Bytes of a record of more than MaxRecord bytes", x, "", api.ErrLong)
	}
}

// TestBytesOrder: the head's errors, then the numbers of all records, then their lengths.
func TestBytesOrder(t *testing.T) {
	long := strings.Repeat("a", api.MaxRecord+1)
	for _, x := range []api.Segment{
		{Kind: 2, Gen: 1, First: 1, Records: []string{long}},
		{Kind: more, Gen: 0, First: 1, Records: []string{long}},
		{Kind: more, Gen: 1, First: 0, Records: []string{long}},
		{Kind: more, Gen: 1, First: most + 1, Records: []string{long}},
		{Kind: more, Gen: 1, First: 1, Text: "a", Records: []string{long}},
		{Kind: more, Gen: 1, First: most, Records: []string{long, "a"}},
		{Kind: more, Gen: 1, First: most, Records: []string{"a", long}},
	} {
		bytesAre(t, "P11.1 Bytes of "+show(x), x, "", api.ErrArg)
	}
	for _, x := range []api.Segment{
		{Kind: begin, Gen: 1, First: most, Text: long, Records: []string{"a", "b"}},
		{Kind: begin, Gen: 1, First: 1, Text: long, Records: []string{long}},
	} {
		bytesAre(t, "P11.1 Bytes of "+show(x), x, "", api.ErrLong)
	}
}

func TestNext(t *testing.T) {
	for _, first := range append(append(someNumbers(), noNumbers()...), most-2, math.MaxUint64-2) {
		for _, count := range []int{0, 1, 2, 3, 1000} {
			for _, kind := range []uint8{more, begin, 2} {
				// Beyond 2^64 it goes round, as its type does: the chapter names no bound.
				x := api.Segment{Kind: kind, Gen: 7, First: first, Text: "abc", Records: make([]string, count), Used: 5, Whole: count%2 == 0}
				if got := Next(x); got != first+uint64(count) {
					t.Errorf("P11.1 Next of %d records from %d on: %d", count, first, got)
				}
			}
		}
	}
	if got := Next(api.Segment{}); got != 0 {
		t.Errorf("P11.1 Next of nothing: %d", got)
	}
}

// P11.2

// TestParseKnown: the bytes were worked out elsewhere.
func TestParseKnown(t *testing.T) {
	s := unhex("000000050000000000000001c9a99a700101616263")
	parses(t, "P11.2 Parse of a head", s, api.Segment{Kind: begin, Gen: 1, First: 1, Text: "abc", Used: 21, Whole: true})
	s = unhex("000000030000ffffffffffff416669f200ac02000000010000ffffffffffff829b2b2fff00000001000100000000000016a97cec61")
	parses(t, "P11.2 Parse of records up to MaxNumber", s, api.Segment{Kind: more, Gen: 300, First: most - 1, Records: []string{"\xff", "a"}, Used: len(s), Whole: true})
	s = unhex("000000050000000000000001c9a99a700101616263000000010000000000000001a773e5f37800000000000000000000000295dba743000000020000000000000003c5bc24c2797a")
	parses(t, "P11.2 Parse of three records", s, api.Segment{Kind: begin, Gen: 1, First: 1, Text: "abc", Records: []string{"x", "", "yz"}, Used: len(s), Whole: true})
	parses(t, "P11.2 Parse of three records less a byte", s[:len(s)-1], api.Segment{Kind: begin, Gen: 1, First: 1, Text: "abc", Records: []string{"x", ""}, Used: len(s) - 18})
}

// TestParseByTheRule: the bytes are made by no function of this package.
func TestParseByTheRule(t *testing.T) {
	for _, x := range someSegments() {
		s := byRule(x)
		parses(t, "P11.2 Parse of "+show(x), s, written(x, s))
		head := headByRule(x)
		x.Records = nil
		parses(t, "P11.2 Parse of the head of "+show(x), head, written(x, head))
	}
	for _, gen := range someNumbers() {
		for _, first := range someNumbers() {
			x := api.Segment{Kind: more, Gen: gen, First: first, Records: []string{"a"}}
			parses(t, "P11.2 Parse of "+show(x), byRule(x), written(x, byRule(x)))
		}
	}
}

// TestParseNoFrame: the front's error is Decode's, ahead of what its text may be.
func TestParseNoFrame(t *testing.T) {
	refuses(t, "P11.2 Parse of nothing", "", api.ErrTorn)
	wrong := map[string]string{"a head": headByRule(api.Segment{Kind: begin, Gen: 1, First: 1, Text: "abc"}), "no head": framed(0, "\x07abc")}
	for about, s := range wrong {
		for n := range len(s) {
			refuses(t, fmt.Sprintf("P11.2 Parse of %d bytes of %s", n, about), s[:n], api.ErrTorn)
		}
		for at := 4; at < len(s); at++ {
			b := []byte(s)
			b[at] ^= 1
			refuses(t, fmt.Sprintf("P11.2 Parse of %s whose byte %d was altered", about, at), string(b)+framed(1, "a"), api.ErrSum)
		}
		refuses(t, "P11.2 Parse of "+about+" that tells more than MaxRecord", "\x00\x01\x00\x01"+s[4:], api.ErrLong)
	}
	refuses(t, "P11.2 Parse of bytes 0", strings.Repeat("\x00", 100), api.ErrSum)
	refuses(t, "P11.2 Parse of bytes 255", strings.Repeat("\xff", 100), api.ErrLong)
}

// TestParseNoHead: a frame that is none of the heads that may be, with nothing behind it, and with a record.
func TestParseNoHead(t *testing.T) {
	type none struct {
		about  string
		number uint64
		text   string
	}
	l := []none{
		{"an empty text", 1, ""},
		{"a kind alone", 1, "\x00"},
		{"the other kind alone", 1, "\x01"},
		{"a number that is cut off", 1, "\x01\x80"},
		{"a longer number that is cut off", 1, "\x00\xff\xff\xff"},
		{"a number of a byte more than it must have", 1, "\x01\x81\x00"},
		{"a number of bytes more than it must have", 1, "\x01\x81\x80\x00abc"},
		{"0 as two bytes", 1, "\x00\x80\x00"},
		{"MaxNumber with a byte more", 1, "\x01\x80\x80\x80\x80\x80\x80\xc0\x00"},
		{"a number of ten bytes beyond all", 1, "\x01\x80\x80\x80\x80\x80\x80\x80\x80\x80\x02"},
		{"ten bytes that go on", 1, "\x01" + strings.Repeat("\xff", 10)},
		{"ten bytes that go on, and more", 1, "\x00" + strings.Repeat("\x80", 12) + "\x01"},
		{"a text where there may be none", 1, "\x00\x01a"},
		{"a byte 0 where there may be none", 1, "\x00\x01\x00"},
		{"a long text where there may be none", 1, "\x00\x01" + pattern(1000, 0)},
		{"letters", 1, "abc"},
	}
	for _, kind := range noKinds() {
		l = append(l, none{fmt.Sprintf("the kind %d", kind), 1, string([]byte{kind, 1})}, none{fmt.Sprintf("the kind %d, and a text", kind), 1, string([]byte{kind, 1, 'a'})})
	}
	for _, n := range noNumbers() {
		for _, kind := range []uint8{more, begin} {
			x := api.Segment{Kind: kind, Gen: 1, First: 1}
			l = append(l, none{fmt.Sprintf("the kind %d and first %d", kind, n), n, string([]byte{kind}) + wire.Uints(x.Gen)})
			l = append(l, none{fmt.Sprintf("the kind %d and gen %d", kind, n), 1, string([]byte{kind}) + wire.Uints(n)})
		}
	}
	for _, c := range l {
		s := framed(c.number, c.text)
		for _, behind := range []string{"", framed(c.number, "a"), "torn", headByRule(api.Segment{Kind: begin, Gen: 1, First: 1})} {
			refuses(t, fmt.Sprintf("P11.2 Parse of %s, %d bytes behind it", c.about, len(behind)), s+behind, api.ErrForm)
		}
	}
}

// TestParseHeadIsWhole: what a SegmentFirst's text begins with is not taken for its generation, and whatever it has is kept.
func TestParseHeadIsWhole(t *testing.T) {
	for _, text := range []string{"\x00", "\x80", "\x01\x01", strings.Repeat("\xff", 20), pattern(api.MaxRecord-8, 0)} {
		for _, gen := range []uint64{1, 127, 128, most} {
			x := api.Segment{Kind: begin, Gen: gen, First: 4, Text: text}
			parses(t, "P11.2 Parse of "+show(x), headByRule(x), written(x, headByRule(x)))
		}
	}
}

// TestParseRest: what is no record that goes on ends it, and what stands behind is not read.
func TestParseRest(t *testing.T) {
	for _, x := range someSegments() {
		s := byRule(x)
		next := Next(x)
		good := framed(next, "good")
		bad := []byte(good)
		bad[len(bad)-1] ^= 1
		want := written(x, s)
		want.Whole = false
		for about, rest := range map[string]string{
			"a number once more":      framed(next-1, "again"),
			"a number left out":       framed(next+1, "later"),
			"number 0":                framed(0, "a"),
			"a number far behind":     framed(math.MaxUint64, "a"),
			"another sum":             string(bad),
			"a text that is too long": "\x00\x01\x00\x01" + good[4:],
			"a byte 0":                "\x00",
			"bytes 0":                 strings.Repeat("\x00", 64),
			"a frame's first bytes":   good[:16],
			"a frame less a byte":     good[:len(good)-1],
			"another segment's head":  headByRule(api.Segment{Kind: more, Gen: x.Gen, First: next + 1}),
		} {
			parses(t, fmt.Sprintf("P11.2 Parse of %s, and %s", show(x), about), s+rest, want)
			parses(t, fmt.Sprintf("P11.2 Parse of %s, %s, and a whole record", show(x), about), s+rest+framed(next, "good")+framed(next+1, "good"), want)
		}
	}
}

// TestParseBeyondMaxNumber: a record beyond it is none of the segment's, though its number goes on.
func TestParseBeyondMaxNumber(t *testing.T) {
	texts := []string{"a", "", "bcd", "e", "", "fg", "h"}
	for back := range uint64(6) {
		for count := range len(texts) + 1 {
			x := api.Segment{Kind: begin, Gen: 1, First: most - back, Text: "t", Records: texts[:count]}
			s := byRule(x)
			if may := int(back) + 1; count > may {
				x.Records = texts[:may]
				want := written(x, byRule(x))
				want.Whole = false
				parses(t, fmt.Sprintf("P11.2 Parse of %d records from MaxNumber - %d on", count, back), s, want)
				continue
			}
			parses(t, fmt.Sprintf("P11.2 Parse of %d records from MaxNumber - %d on", count, back), s, written(x, s))
		}
	}
}

func TestParseMany(t *testing.T) {
	texts := make([]string, 3000)
	for i := range texts {
		texts[i] = pattern(i%20, i)
	}
	x := api.Segment{Kind: more, Gen: 9, First: 1 << 40, Records: texts}
	s := byRule(x)
	parses(t, "P11.2 Parse of 3,000 records", s, written(x, s))
	x = api.Segment{Kind: begin, Gen: 9, First: 8, Text: pattern(api.MaxRecord-2, 0), Records: []string{pattern(api.MaxRecord, 1), "", pattern(api.MaxRecord, 2)}}
	s = byRule(x)
	parses(t, "P11.2 Parse of what is as long as may be", s, written(x, s))
}

// parseByRule is Parse by the chapter's words, frame by frame, with bytes read by no function of this package.
func parseByRule(s string) (x api.Segment, e api.Errno) {
	r, used, e := frame.Decode(s)
	if e != api.OK {
		return api.Segment{}, e
	}
	gen, at := uint64(0), 1
	for shift := 0; at < len(r.Text) && shift < 56; shift += 7 { // MaxNumber has seven bytes
		b := r.Text[at]
		gen |= uint64(b&127) << shift
		at++
		if b < 128 {
			break
		}
	}
	x = api.Segment{Gen: gen, First: r.Number}
	if r.Text == "" || r.Text[0] > 1 || gen < 1 || gen > 1<<48 || x.First < 1 || x.First > 1<<48 || r.Text[1:at] != wire.Uints(gen) {
		return api.Segment{}, api.ErrForm
	}
	x.Kind, x.Text, x.Used = r.Text[0], r.Text[at:], used
	if x.Kind == 0 && x.Text != "" {
		return api.Segment{}, api.ErrForm
	}
	for number := x.First; number <= 1<<48; number++ {
		r, used, e = frame.Decode(s[x.Used:])
		if e != api.OK || r.Number != number {
			break
		}
		x.Records = append(x.Records, r.Text)
		x.Used += used
	}
	x.Whole = len(s) == x.Used
	return x, api.OK
}

// TestAnyBytes: Parse answers what the chapter's words tell, whatever was altered, with sums that are right again and with others.
func TestAnyBytes(t *testing.T) {
	seed := uint32(1)
	draw := func(n int) int {
		seed = seed*1664525 + 1013904223
		return int(seed>>8) % n
	}
	for range 20000 {
		text := []byte{byte(draw(3)), byte(draw(256)), byte(draw(256)), byte(draw(3))}[:draw(5)]
		number := []uint64{0, 1, 9, most - 1, most, most + 1}[draw(6)]
		s := framed(number, string(text))
		for i := range uint64(draw(4)) {
			s += framed(number+i, pattern(draw(4), 0))
		}
		b := []byte(s)
		if draw(4) == 0 {
			b[draw(len(b))] ^= 1 << draw(8)
		}
		if draw(4) == 0 {
			b = b[:draw(len(b))]
		}
		want, e := parseByRule(string(b))
		if x, err := Parse(string(b)); !same(x, want) || err != e {
			t.Errorf("P11.2 Parse of %x: %s, %v, want %s, %v", b, show(x), err, show(want), e)
		}
	}
}

// TestAnswersAreTheirOwn: what is read stands in memory of its own, and no list in another one's; what is handed in stays as it is.
func TestAnswersAreTheirOwn(t *testing.T) {
	x := api.Segment{Kind: begin, Gen: 1, First: 1, Text: "abc", Records: []string{"def", "ghi"}}
	s, err := Bytes(x)
	if err != api.OK || !slices.Equal(x.Records, []string{"def", "ghi"}) {
		t.Fatalf("P11.1 Bytes: %v, and records %q", err, x.Records)
	}
	one, _ := Parse(s)
	two, _ := Parse(s)
	if len(one.Records) != 2 {
		t.Fatalf("P11.2 %d records", len(one.Records))
	}
	one.Records[0] = "changed"
	_ = append(one.Records[:1], "changed")
	if !same(two, written(x, s)) {
		t.Errorf("P11.2 another answer was changed: %s", show(two))
	}
	if within(two.Text, s) || within(two.Records[1], s) {
		t.Error("P11.2 an answer has the memory of what is read")
	}
	l := []api.Segment{two, {Kind: more, Gen: 1, First: 3, Whole: true}, {Kind: more, Gen: 1, First: 3}}
	kept := slices.Clone(l)
	row, _ := Row(l...)
	other, _ := Row(l...)
	if len(row) != 3 {
		t.Fatalf("P11.3 %v", row)
	}
	row[0] = 7
	if !slices.Equal(other, []int{0, 1, 2}) || !slices.EqualFunc(l, kept, same) {
		t.Errorf("P11.3 another answer, or the list, was changed: %v", other)
	}
}

// P11.3

// firstOf is a SegmentFirst from a number on, with so many records, that is Whole.
func firstOf(gen, number uint64, records int) api.Segment {
	return api.Segment{Kind: begin, Gen: gen, First: number, Records: make([]string, records), Whole: true}
}

// moreOf is the same of SegmentMore.
func moreOf(gen, number uint64, records int) api.Segment {
	x := firstOf(gen, number, records)
	x.Kind = more
	return x
}

// torn is a segment that is not Whole.
func torn(x api.Segment) api.Segment {
	x.Whole = false
	return x
}

func TestRowOfNone(t *testing.T) {
	rows(t, "P11.3 Row of nothing", nil, nil, api.ErrNone)
	rows(t, "P11.3 Row of an empty list", []api.Segment{}, nil, api.ErrNone)
	rows(t, "P11.3 Row of zero values", make([]api.Segment, 3), nil, api.ErrNone)
	rows(t, "P11.3 Row of none of SegmentFirst", []api.Segment{moreOf(1, 1, 2), moreOf(1, 3, 0), moreOf(2, 1, 1)}, nil, api.ErrNone)
	for _, kind := range noKinds() {
		x := firstOf(1, 1, 1)
		x.Kind = kind
		rows(t, fmt.Sprintf("P11.3 Row of the kind %d", kind), []api.Segment{x}, nil, api.ErrNone)
		rows(t, fmt.Sprintf("P11.3 Row of the kind %d where the next one would come", kind), []api.Segment{{Kind: kind, Gen: 1, First: 2, Whole: true}, firstOf(1, 1, 1), x}, []int{1}, api.OK)
	}
}

func TestRowExample(t *testing.T) {
	rows(t, "P11.3 the chapter's example", []api.Segment{moreOf(1, 3, 1), firstOf(1, 1, 2), moreOf(1, 4, 0)}, []int{1, 0, 2}, api.OK)
}

// TestRowBegins: with the greatest generation, and of several of it with the first one of the list.
func TestRowBegins(t *testing.T) {
	for _, c := range []struct {
		gens []uint64
		want int
	}{
		{[]uint64{1}, 0},
		{[]uint64{0}, 0},
		{[]uint64{math.MaxUint64}, 0},
		{[]uint64{1, 2}, 1},
		{[]uint64{2, 1}, 0},
		{[]uint64{1, 3, 2}, 1},
		{[]uint64{1, 2, 3}, 2},
		{[]uint64{2, 2}, 0},
		{[]uint64{1, 2, 2}, 1},
		{[]uint64{2, 1, 2, 2}, 0},
		{[]uint64{most, most + 1, most}, 1},
		{[]uint64{0, 0}, 0},
		{[]uint64{0, 1}, 1},
		{[]uint64{1 << 63, 1<<63 - 1}, 0},
	} {
		var l []api.Segment
		for i, gen := range c.gens {
			l = append(l, firstOf(gen, uint64(i+1), 1))
		}
		rows(t, fmt.Sprintf("P11.3 Row of SegmentFirst of generations %v", c.gens), l, []int{c.want}, api.OK)
		// Ones of SegmentMore ahead of it move its place, whatever generation they have.
		l = append([]api.Segment{moreOf(math.MaxUint64, 100, 0), moreOf(0, 101, 0)}, l...)
		rows(t, fmt.Sprintf("P11.3 Row of two others and SegmentFirst of generations %v", c.gens), l, []int{c.want + 2}, api.OK)
	}
	// What a segment has else is not asked.
	rows(t, "P11.3 Row of a torn one of the greatest generation", []api.Segment{firstOf(1, 1, 1), torn(firstOf(2, 9, 0)), moreOf(1, 2, 0)}, []int{1}, api.OK)
}

func TestRowGoesOn(t *testing.T) {
	for _, c := range []struct {
		about string
		l     []api.Segment
		want  []int
	}{
		{"one alone", []api.Segment{firstOf(1, 1, 5)}, []int{0}},
		{"three in order", []api.Segment{firstOf(1, 1, 2), moreOf(1, 3, 2), moreOf(1, 5, 2)}, []int{0, 1, 2}},
		{"three turned about", []api.Segment{moreOf(1, 5, 2), moreOf(1, 3, 2), firstOf(1, 1, 2)}, []int{2, 1, 0}},
		{"a gap", []api.Segment{firstOf(1, 1, 2), moreOf(1, 4, 2)}, []int{0}},
		{"a number once more", []api.Segment{firstOf(1, 1, 2), moreOf(1, 2, 2)}, []int{0}},
		{"a gap behind the second one", []api.Segment{firstOf(1, 1, 2), moreOf(1, 3, 2), moreOf(1, 6, 1)}, []int{0, 1}},
		{"one of SegmentFirst where the next one would come", []api.Segment{firstOf(1, 1, 2), firstOf(1, 3, 2), moreOf(1, 5, 1)}, []int{0}},
		{"an elder generation among them", []api.Segment{firstOf(1, 1, 2), moreOf(1, 3, 1), firstOf(2, 3, 0), moreOf(1, 4, 2), moreOf(2, 3, 4)}, []int{2, 4}},
		{"an elder generation where the next one would come", []api.Segment{firstOf(2, 1, 2), moreOf(1, 3, 1)}, []int{0}},
		{"an elder one ahead of the same generation's", []api.Segment{moreOf(1, 3, 1), firstOf(2, 1, 2), moreOf(2, 3, 1)}, []int{1, 2}},
		{"a younger one where the next one would come", []api.Segment{firstOf(1, 1, 2), moreOf(2, 3, 1)}, []int{0}},
		{"a first one that is torn", []api.Segment{torn(firstOf(1, 1, 2)), moreOf(1, 3, 2)}, []int{0}},
		{"a second one that is torn", []api.Segment{firstOf(1, 1, 2), torn(moreOf(1, 3, 2)), moreOf(1, 5, 2)}, []int{0, 1}},
		{"a last one that is torn", []api.Segment{firstOf(1, 1, 2), moreOf(1, 3, 2), torn(moreOf(1, 5, 2))}, []int{0, 1, 2}},
		{"two that could come next", []api.Segment{firstOf(1, 1, 2), moreOf(1, 3, 2), moreOf(1, 3, 3), moreOf(1, 5, 1), moreOf(1, 6, 1)}, []int{0, 1, 3, 4}},
		{"two that could come next, the other way", []api.Segment{firstOf(1, 1, 2), moreOf(1, 3, 3), moreOf(1, 3, 2), moreOf(1, 5, 1), moreOf(1, 6, 1)}, []int{0, 1, 4}},
		{"two that could come next, of which the first is torn", []api.Segment{torn(moreOf(1, 3, 2)), firstOf(1, 1, 2), moreOf(1, 3, 2), moreOf(1, 5, 0)}, []int{1, 0}},
		{"one that is its own Next", []api.Segment{firstOf(1, 1, 2), moreOf(1, 3, 0)}, []int{0, 1}},
		{"several that are their own Next", []api.Segment{moreOf(1, 3, 0), moreOf(1, 3, 0), firstOf(1, 1, 2), moreOf(1, 3, 0)}, []int{2, 0, 1, 3}},
		{"one that is its own Next, ahead of one with records", []api.Segment{moreOf(1, 3, 0), firstOf(1, 3, 0), moreOf(1, 3, 2), moreOf(1, 5, 0)}, []int{1, 0, 2, 3}},
		{"one with records ahead of one that is its own Next", []api.Segment{moreOf(1, 3, 2), firstOf(1, 3, 0), moreOf(1, 3, 0), moreOf(1, 5, 0)}, []int{1, 0, 3}},
		{"one that is its own Next, torn", []api.Segment{firstOf(1, 3, 0), torn(moreOf(1, 3, 0)), moreOf(1, 3, 1)}, []int{0, 1}},
		{"up to MaxNumber", []api.Segment{moreOf(most, most, 1), firstOf(most, most-2, 2), moreOf(most, most+1, 0)}, []int{1, 0, 2}},
		{"round at 2^64, to where it began", []api.Segment{moreOf(0, 1, 2), firstOf(0, math.MaxUint64, 2), moreOf(0, 3, 1)}, []int{1, 0, 2}},
	} {
		rows(t, "P11.3 Row of "+c.about, c.l, c.want, api.OK)
	}
}

// TestRowOfMany: each segment is taken once, also where each could come next.
func TestRowOfMany(t *testing.T) {
	const count = 2000
	l := make([]api.Segment, count)
	want := make([]int, count)
	for i := range l {
		l[count-1-i] = moreOf(5, uint64(2*i+1), 2)
		want[i] = count - 1 - i
	}
	l[count-1].Kind = begin
	rows(t, "P11.3 Row of 2,000 turned about", l, want, api.OK)
	for i := range l {
		l[i] = moreOf(5, 8, 0)
		want[i] = i
	}
	l[0].Kind = begin
	rows(t, "P11.3 Row of 2,000 that are their own Next", l, want, api.OK)
}

// rowByRule is Row by the chapter's words, gone through again and again.
func rowByRule(l []api.Segment) (row []int, e api.Errno) {
	at := -1
	for i, x := range l {
		if x.Kind == 1 && (at < 0 || x.Gen > l[at].Gen) {
			at = i
		}
	}
	if at < 0 {
		return nil, api.ErrNone
	}
	gen := l[at].Gen
	for at >= 0 {
		row = append(row, at)
		ahead := l[at]
		at = -1
		if !ahead.Whole {
			break
		}
		for i, x := range l {
			if x.Kind == 0 && x.Gen == gen && x.First == ahead.First+uint64(len(ahead.Records)) && !slices.Contains(row, i) {
				at = i
				break
			}
		}
	}
	return row, api.OK
}

// rowsByRule says where Row answers something else than the chapter's words tell.
func rowsByRule(t *testing.T, l []api.Segment) {
	t.Helper()
	want, e := rowByRule(l)
	got, err := Row(l...)
	if slices.Equal(got, want) && err == e {
		return
	}
	about := ""
	for _, x := range l {
		about += " " + show(x)
	}
	t.Errorf("P11.3 Row of%s: %v, %v, want %v, %v", about, got, err, want, e)
}

// TestRowOfAllSmallLists: of up to three segments, of few numbers.
func TestRowOfAllSmallLists(t *testing.T) {
	var all []api.Segment
	for _, kind := range []uint8{more, begin} {
		for _, gen := range []uint64{1, 2} {
			for _, first := range []uint64{1, 2} {
				for records := range 2 {
					for _, whole := range []bool{false, true} {
						all = append(all, api.Segment{Kind: kind, Gen: gen, First: first, Records: make([]string, records), Whole: whole})
					}
				}
			}
		}
	}
	for _, a := range all {
		rowsByRule(t, []api.Segment{a})
		for _, b := range all {
			rowsByRule(t, []api.Segment{a, b})
			for _, c := range all {
				rowsByRule(t, []api.Segment{a, b, c})
			}
		}
	}
}

// TestRowOfAnyLists: longer ones, most of whose segments could go on from each other.
func TestRowOfAnyLists(t *testing.T) {
	seed := uint32(7)
	draw := func(n int) int {
		seed = seed*1664525 + 1013904223
		return int(seed>>8) % n
	}
	for range 50000 {
		l := make([]api.Segment, draw(12))
		for i := range l {
			l[i] = api.Segment{Kind: more, Gen: uint64(draw(8)/7 + 1), First: uint64(draw(5)), Records: make([]string, draw(3)), Whole: draw(10) > 0}
			if draw(6) == 0 {
				l[i].Kind = uint8(draw(3))
			}
		}
		rowsByRule(t, l)
	}
}

// P11.4

func TestWrittenIsRead(t *testing.T) {
	for _, x := range someSegments() {
		s, err := Bytes(x)
		if err != api.OK {
			t.Fatalf("P11.4 Bytes of %s: %v", show(x), err)
		}
		parses(t, "P11.4 Parse of what was written", s, written(x, s))
		again, err := Parse(s)
		if err != api.OK {
			t.Fatalf("P11.4 Parse of %s: %v", show(x), err)
		}
		bytesAre(t, "P11.4 Bytes of what was read", again, s, api.OK)
	}
}

// TestCutAnywhere: in the head it is none; behind it a beginning of its records, Whole between frames alone.
func TestCutAnywhere(t *testing.T) {
	for _, x := range someSegments() {
		s, err := Bytes(x)
		head, e := Head(x.Kind, x.Gen, x.First, x.Text)
		if err != api.OK || e != api.OK || !strings.HasPrefix(s, head) {
			t.Fatalf("P11.4 Bytes of %s: %v, %v, or they do not begin with its head", show(x), err, e)
		}
		whole, used := 0, len(head)
		for n := range len(s) + 1 {
			about := fmt.Sprintf("P11.4 %s cut off behind %d bytes", show(x), n)
			if n < len(head) {
				refuses(t, about, s[:n], api.ErrTorn)
				continue
			}
			if whole < len(x.Records) && n == used+frame.Size(x.Records[whole]) {
				used = n
				whole++
			}
			want := x
			want.Records, want.Used, want.Whole = x.Records[:whole], used, n == used
			parses(t, about, s[:n], want)
		}
		if whole != len(x.Records) {
			t.Errorf("P11.4 %d records were gone through, want %d", whole, len(x.Records))
		}
	}
}

// TestRowOfWhatWasWritten: the files of a log, of which an elder generation is still there, and the last one is torn.
func TestRowOfWhatWasWritten(t *testing.T) {
	files := []api.Segment{
		{Kind: more, Gen: 2, First: 7, Records: []string{"g", "h"}},
		{Kind: begin, Gen: 1, First: 1, Records: []string{"a", "b", "c"}},
		{Kind: begin, Gen: 2, First: 4, Text: "abc", Records: []string{"d", "e", "f"}},
		{Kind: more, Gen: 1, First: 4},
		{Kind: more, Gen: 2, First: 9},
	}
	read := func(cut int) []api.Segment {
		l := make([]api.Segment, len(files))
		for i, x := range files {
			s, err := Bytes(x)
			if i == cut {
				s = s[:len(s)-1]
			}
			y, e := Parse(s)
			if err != api.OK || e != api.OK {
				t.Fatalf("P11.4 Bytes and Parse of %s: %v, %v", show(x), err, e)
			}
			l[i] = y
		}
		return l
	}
	rows(t, "P11.3 Row of a log's files", read(-1), []int{2, 0, 4}, api.OK)
	rows(t, "P11.3 Row of a log's files, whose second one is torn", read(0), []int{2, 0}, api.OK)
	rows(t, "P11.3 Row of a log's files, whose first one is torn", read(2), []int{2}, api.OK)
	rows(t, "P11.3 Row of a log's files, whose elder one is torn", read(1), []int{2, 0, 4}, api.OK)
}
