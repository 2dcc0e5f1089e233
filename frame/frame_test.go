package frame

import (
	"fmt"
	"math"
	"slices"
	"strings"
	"testing"
	"unsafe"

	"scrinium/api"
	"scrinium/word"
)

// unhex is the bytes of a hex text that stands in a test.
func unhex(s string) string {
	b, is := word.Unhex(s)
	if !is {
		panic("no hex text: " + s)
	}
	return b
}

// pattern is n bytes that repeat only after 256, from one of them on.
func pattern(n, from int) string {
	b := make([]byte, n)
	for i := range b {
		b[i] = byte((i+from)*7 + 3)
	}
	return string(b)
}

// big is a number as n bytes, the highest one first.
func big(n int, number uint64) string {
	s := ""
	for range n {
		s = string([]byte{byte(number)}) + s
		number /= 256
	}
	return s
}

// sumByRule is the sum of a text by the words of layer 7's chapter.
func sumByRule(s string) uint64 {
	row := uint32(0xFFFFFFFF)
	for _, b := range []byte(s) {
		row ^= uint32(b)
		for range 8 {
			if row%2 == 1 {
				row = row/2 ^ 0xEDB88320
			} else {
				row /= 2
			}
		}
	}
	return uint64(row ^ 0xFFFFFFFF)
}

// telling is a frame by the chapter's words, made by no function of this package, which tells so many bytes, whatever the text has.
func telling(long uint64, number uint64, text string) string {
	ahead := big(4, long) + big(8, number)
	return ahead + big(4, sumByRule(ahead+text)) + text
}

// byRule is a record's frame by the chapter's words.
func byRule(number uint64, text string) string { return telling(uint64(len(text)), number, text) }

// rowOf is the records of texts, with numbers from first on, and their frames in a row.
func rowOf(first uint64, texts ...string) (l []api.Record, s string) {
	for i, text := range texts {
		number := first + uint64(i)
		l = append(l, api.Record{Number: number, Text: text})
		s += byRule(number, text)
	}
	return l, s
}

// someNumbers are edges, and numbers each byte of which is another one.
func someNumbers() []uint64 {
	l := []uint64{0, 1, 2, 300, 0x0102030405060708, 0xF0E1D2C3B4A59687, math.MaxUint64, math.MaxUint64 - 1}
	for i := range 8 {
		l = append(l, 1<<(8*i), 0xFF<<(8*i))
	}
	return l
}

// someTexts are texts of all kinds of lengths and bytes.
func someTexts() []string {
	l := []string{"", "\x00", "\xff", "a", "bc", "123456789", "\xc3\xa4\xff\xfe", strings.Repeat("\x00", 16), strings.Repeat("\xff", 17), byRule(1, "a")}
	for _, n := range []int{1, 3, 4, 15, 16, 17, 255, 256, 257, 1000} {
		l = append(l, pattern(n, n))
	}
	return l
}

// turned is s with the bits of a mask turned from bit at on, the lowest of each byte first, as the sum goes over them.
func turned(s string, at int, mask uint32) string {
	b := []byte(s)
	for i := range 32 {
		if place := at + i; mask>>i&1 == 1 {
			b[place/8] ^= 1 << (place % 8)
		}
	}
	return string(b)
}

// within tells whether a text stands in the memory of another one.
func within(text, other string) bool {
	p, at := uintptr(unsafe.Pointer(unsafe.StringData(text))), uintptr(unsafe.Pointer(unsafe.StringData(other)))
	return p >= at && p < at+uintptr(len(other))
}

// decodes says where Decode answers another record, or tells that its frame has other bytes.
func decodes(t *testing.T, about, s string, number uint64, text string) {
	t.Helper()
	r, used, err := Decode(s)
	if r.Number != number || r.Text != text || used != 16+len(text) || err != api.OK {
		t.Errorf("%s: %d, %.20q (%d bytes), %d, %v, want %d, %.20q (%d bytes), %d, OK", about, r.Number, r.Text, len(r.Text), used, err, number, text, len(text), 16+len(text))
	}
}

// refuses says where Decode answers another error, or something beside it.
func refuses(t *testing.T, about, s string, want api.Errno) {
	t.Helper()
	if r, used, err := Decode(s); err != want || used != 0 || r != (api.Record{}) {
		t.Errorf("%s: %d, %.20q, %d, %v, want zero values, %v", about, r.Number, r.Text, used, err, want)
	}
}

// scans says where Scan answers other records, another number or another error.
func scans(t *testing.T, about, s string, first uint64, want []api.Record, used int, e api.Errno) {
	t.Helper()
	l, n, err := Scan(s, first)
	if !slices.Equal(l, want) || n != used || err != e {
		t.Errorf("%s: %d records, %d, %v, want %d, %d, %v", about, len(l), n, err, len(want), used, e)
	}
}

// P10.1

func TestSize(t *testing.T) {
	for _, n := range []int{0, 1, 2, 15, 16, 17, 255, 256, 65535, api.MaxRecord, api.MaxRecord + 1, 1 << 20} {
		if got := Size(strings.Repeat("\xff", n)); got != 16+n {
			t.Errorf("P10.1 Size of %d bytes: %d", n, got)
		}
	}
	if got := Size("\xc3\xa4\xc3\xa4"); got != 20 {
		t.Errorf("P10.1 Size of 4 bytes that are 2 letters: %d", got)
	}
}

// TestEncodeKnown: the frames were worked out elsewhere; the first one is the chapter's example.
func TestEncodeKnown(t *testing.T) {
	for _, c := range []struct {
		number uint64
		text   string
		want   string
	}{
		{1, "a", "000000010000000000000001c3184d3361"},
		{0, "", "0000000000000000000000007bd5c66f"},
		{1, "", "0000000000000000000000010cd2f6f9"},
		{math.MaxUint64, "", "00000000ffffffffffffffff3fb3c61a"},
		{math.MaxUint64, "abc", "00000003ffffffffffffffff9cc32755616263"},
		{0x0102030405060708, "123456789", "00000009010203040506070854d3b828313233343536373839"},
		{300, "\x00", "00000001000000000000012cd8452c2500"},
		{7, "\xc3\xa4\xff", "000000030000000000000007491a57d7c3a4ff"},
	} {
		if got, err := Encode(api.Record{Number: c.number, Text: c.text}); got != unhex(c.want) || err != api.OK {
			t.Errorf("P10.1 Encode(%d, %q): %x, %v, want %s", c.number, c.text, got, err, c.want)
		}
	}
	for _, c := range []struct {
		long int
		want string
	}{
		{255, "000000ff0000000000000005f7ee8219"},
		{256, "000001000000000000000005c285a03d"},
		{257, "000001010000000000000005e346e50e"},
		{65535, "0000ffff0000000000000005003af6d3"},
		{65536, "000100000000000000000005bf264d47"},
	} {
		text := pattern(c.long, 0)
		if got, err := Encode(api.Record{Number: 5, Text: text}); got != unhex(c.want)+text || err != api.OK {
			t.Errorf("P10.1 Encode of %d bytes: %.16x, %d bytes, %v, want %s", c.long, got, len(got), err, c.want)
		}
	}
}

func TestEncodeByTheRule(t *testing.T) {
	for _, text := range someTexts() {
		for _, number := range someNumbers() {
			got, err := Encode(api.Record{Number: number, Text: text})
			if got != byRule(number, text) || err != api.OK {
				t.Errorf("P10.1 Encode(%d, %.12q): %.40x, %v, want %.40x", number, text, got, err, byRule(number, text))
			}
			if len(got) != Size(text) {
				t.Errorf("P10.1 Encode(%d, %.12q) has %d bytes, and Size tells %d", number, text, len(got), Size(text))
			}
		}
	}
}

func TestEncodeLong(t *testing.T) {
	for _, b := range []string{"\x00", "a", "\xff"} {
		text := strings.Repeat(b, api.MaxRecord)
		if got, err := Encode(api.Record{Number: 9, Text: text}); got != byRule(9, text) || err != api.OK {
			t.Errorf("P10.1 Encode of MaxRecord bytes %q: %d bytes, %v", b, len(got), err)
		}
		for _, more := range []string{b, b + b, text} {
			if got, err := Encode(api.Record{Number: 9, Text: text + more}); got != "" || err != api.ErrLong {
				t.Errorf("P10.1 Encode of %d bytes more than MaxRecord: %d bytes, %v, want none, ErrLong", len(more), len(got), err)
			}
		}
	}
}

// P10.2

func TestDecodeKnown(t *testing.T) {
	decodes(t, "P10.2 Decode(1, a)", unhex("000000010000000000000001c3184d3361"), 1, "a")
	decodes(t, "P10.2 Decode(0, nothing)", unhex("0000000000000000000000007bd5c66f"), 0, "")
	decodes(t, "P10.2 Decode(2^64 - 1, abc)", unhex("00000003ffffffffffffffff9cc32755616263"), math.MaxUint64, "abc")
	decodes(t, "P10.2 Decode(0x0102030405060708, 123456789)", unhex("00000009010203040506070854d3b828313233343536373839"), 0x0102030405060708, "123456789")
	decodes(t, "P10.2 Decode of 65,536 bytes", unhex("000100000000000000000005bf264d47")+pattern(65536, 0), 5, pattern(65536, 0))
}

// TestDecodeByTheRule: alone, and with more behind it, of which nothing is told.
func TestDecodeByTheRule(t *testing.T) {
	for _, text := range someTexts() {
		for _, number := range someNumbers() {
			s := byRule(number, text)
			for _, behind := range []string{"", "\x00", "x", strings.Repeat("\xff", 20), byRule(number+1, "next"), s} {
				decodes(t, fmt.Sprintf("P10.2 Decode(%d, %.12q), %d bytes behind it", number, text, len(behind)), s+behind, number, text)
			}
		}
	}
}

// TestDecodeTornHead: fewer than 16 bytes are torn, whatever they tell.
func TestDecodeTornHead(t *testing.T) {
	for _, whole := range []string{byRule(1, "a"), byRule(0, ""), strings.Repeat("\x00", 16), strings.Repeat("\xff", 16), telling(api.MaxRecord+1, 1, ""), telling(math.MaxUint32, 1, "")} {
		for n := range api.FrameMore {
			refuses(t, fmt.Sprintf("P10.2 Decode of the first %d bytes of %x", n, whole), whole[:n], api.ErrTorn)
		}
	}
}

func TestDecodeTornText(t *testing.T) {
	for _, text := range []string{"a", "ab", pattern(16, 0), pattern(300, 0)} {
		s := byRule(7, text)
		other := turned(s, 100, 1)
		for n := api.FrameMore; n < len(s); n++ {
			refuses(t, fmt.Sprintf("P10.2 Decode of the first %d bytes of %d", n, len(s)), s[:n], api.ErrTorn)
			refuses(t, fmt.Sprintf("P10.2 Decode of the first %d bytes of %d, with another sum", n, len(s)), other[:n], api.ErrTorn)
		}
	}
	most := byRule(7, pattern(api.MaxRecord, 0))
	for _, n := range []int{api.FrameMore, api.FrameMore + 1, api.MaxRecord - 1, api.MaxRecord, len(most) - 1} {
		refuses(t, fmt.Sprintf("P10.2 Decode of the first %d bytes of a frame of MaxRecord", n), most[:n], api.ErrTorn)
	}
}

// TestDecodeLong: more than MaxRecord is told as long wherever there are 16 bytes, ahead of what is torn behind them, and of the sum.
func TestDecodeLong(t *testing.T) {
	text := pattern(api.MaxRecord+1, 0)
	refuses(t, "P10.2 Decode of a whole frame of one byte more than MaxRecord", byRule(1, text), api.ErrLong)
	for _, long := range []uint64{api.MaxRecord + 1, api.MaxRecord + 256, 2 * api.MaxRecord, 1 << 24, 1<<24 + 1, 1<<31 - 1, 1 << 31, 1<<31 + 1, math.MaxUint32} {
		about := fmt.Sprintf("P10.2 Decode of first bytes that tell %d", long)
		refuses(t, about+", and nothing behind 16", telling(long, 1, ""), api.ErrLong)
		refuses(t, about+", with another sum", big(4, long)+strings.Repeat("\x00", 12), api.ErrLong)
		refuses(t, about+", with some bytes behind", telling(long, 1, text[:100]), api.ErrLong)
		refuses(t, about+", with many", telling(long, 1, text), api.ErrLong)
	}
	for _, long := range []uint64{api.MaxRecord, api.MaxRecord - 1, 1} {
		refuses(t, fmt.Sprintf("P10.2 Decode of first bytes that tell %d, and nothing behind 16", long), telling(long, 1, ""), api.ErrTorn)
	}
	decodes(t, "P10.2 Decode of MaxRecord bytes", byRule(1, text[:api.MaxRecord]), 1, text[:api.MaxRecord])
}

// TestDecodeOtherSum: each byte behind the first four, altered in each way, is seen by the sum.
func TestDecodeOtherSum(t *testing.T) {
	for _, text := range []string{"", "a", pattern(20, 9)} {
		s := byRule(0x0102030405060708, text)
		for at := 4; at < len(s); at++ {
			for by := 1; by < 256; by++ {
				b := []byte(s)
				b[at] ^= byte(by)
				refuses(t, fmt.Sprintf("P10.2 Decode of %x with byte %d either or %d", s, at, by), string(b), api.ErrSum)
			}
		}
	}
	refuses(t, "P10.2 Decode of 16 bytes 0", strings.Repeat("\x00", 16), api.ErrSum)
	refuses(t, "P10.2 Decode of a frame with the sum of its text alone", big(4, 1)+big(8, 1)+big(4, sumByRule("a"))+"a", api.ErrSum)
	refuses(t, "P10.2 Decode of a frame with the sum of its first bytes alone", big(4, 1)+big(8, 1)+big(4, sumByRule(big(4, 1)+big(8, 1)))+"a", api.ErrSum)
}

// TestDecodeOtherLength: a frame that tells fewer bytes than it has, or more, of those which are there, has another sum.
func TestDecodeOtherLength(t *testing.T) {
	s := byRule(3, "abcdef")
	for long := range uint64(16) {
		switch about := fmt.Sprintf("P10.2 Decode of 6 bytes of which %d are told", long); {
		case long < 6:
			refuses(t, about, big(4, long)+s[4:], api.ErrSum)
		case long == 6:
			decodes(t, about, s, 3, "abcdef")
		default:
			refuses(t, about, big(4, long)+s[4:], api.ErrTorn)
			refuses(t, about+", and more behind", big(4, long)+s[4:]+"ghijklmnop", api.ErrSum)
		}
	}
}

// TestAnswersAreTheirOwn: no list has another one's memory, no text that of what is read, no frame that of its text.
func TestAnswersAreTheirOwn(t *testing.T) {
	want, s := rowOf(5, "abc", "def")
	one, _, _ := Scan(s, 5)
	two, _, _ := Scan(s, 5)
	if len(one) != 2 || len(two) != 2 {
		t.Fatalf("P10.3 Scan of two frames: %d and %d records", len(one), len(two))
	}
	one[0].Text = "changed"
	_ = append(one[:1], api.Record{})
	if !slices.Equal(two, want) {
		t.Errorf("P10.3 records: %v, want %v", two, want)
	}
	r, _, _ := Decode(s)
	if within(r.Text, s) || within(two[1].Text, s) {
		t.Error("P10.2 a text has the memory of what is read")
	}
	text := pattern(50, 0)
	if f, _ := Encode(api.Record{Text: text}); within(f, text) || within(text, f) {
		t.Error("P10.1 a frame has the memory of its text")
	}
}

// P10.3

// TestExamples: the chapter's examples.
func TestExamples(t *testing.T) {
	one, err := Encode(api.Record{Number: 1, Text: "a"})
	if len(one) != 17 || one[:12] != "\x00\x00\x00\x01\x00\x00\x00\x00\x00\x00\x00\x01" || one[12:16] != big(4, sumByRule(one[:12]+"a")) || one[16:] != "a" || err != api.OK {
		t.Errorf("P10.1 Encode(1, a): %x, %v", one, err)
	}
	want, s := rowOf(1, "a", "bc")
	scans(t, "P10.3 Scan of two frames and five bytes of a third", s+byRule(3, "def")[:5], 1, want, len(s), api.ErrTorn)
}

func TestScanOfNothing(t *testing.T) {
	for _, first := range someNumbers() {
		scans(t, fmt.Sprintf("P10.3 Scan(nothing, %d)", first), "", first, nil, 0, api.OK)
	}
}

// TestScanWhole: of so many frames, from each number on, round at 2^64 as well.
func TestScanWhole(t *testing.T) {
	texts := someTexts()
	for _, first := range append(someNumbers(), math.MaxUint64-5, math.MaxUint64-uint64(len(texts))+1, math.MaxUint32) {
		for n := range len(texts) + 1 {
			want, s := rowOf(first, texts[:n]...)
			scans(t, fmt.Sprintf("P10.3 Scan of %d frames from %d on", n, first), s, first, want, len(s), api.OK)
		}
	}
}

func TestScanMany(t *testing.T) {
	texts := make([]string, 3000)
	for i := range texts {
		texts[i] = pattern(i%20, i)
	}
	want, s := rowOf(math.MaxUint64-1000, texts...)
	scans(t, "P10.3 Scan of 3,000 frames", s, math.MaxUint64-1000, want, len(s), api.OK)
	long := pattern(api.MaxRecord, 0)
	want, s = rowOf(8, long, "", long)
	scans(t, "P10.3 Scan of frames of MaxRecord", s, 8, want, len(s), api.OK)
	scans(t, "P10.3 Scan of frames of MaxRecord, less a byte", s[:len(s)-1], 8, want[:2], 32+len(long), api.ErrTorn)
}

// TestScanOtherNumber: a number that is not the next one ends it, wherever it stands, whatever is behind it.
func TestScanOtherNumber(t *testing.T) {
	for _, first := range []uint64{0, 1, 9, 1 << 32, math.MaxUint64, math.MaxUint64 - 1} {
		for whole := range 4 {
			want, s := rowOf(first, []string{"a", "", "bcd"}[:whole]...)
			next := first + uint64(whole)
			for _, other := range []uint64{next + 1, next - 1, next + 1<<32, next ^ 1<<63, next ^ 1, next ^ 0x80, ^next} {
				for _, behind := range []string{"", byRule(other+1, "x"), byRule(next, "x"), "torn", strings.Repeat("\xff", 16)} {
					about := fmt.Sprintf("P10.3 Scan from %d on, with %d behind %d frames", first, other, whole)
					scans(t, about, s+byRule(other, "other")+behind, first, want, len(s), api.ErrForm)
				}
			}
		}
	}
}

// TestScanFromAnother: the first number is asked, too.
func TestScanFromAnother(t *testing.T) {
	_, s := rowOf(5, "a", "b")
	for _, first := range []uint64{0, 1, 4, 6, 7, 5 + 1<<32, 5 + 1<<63, math.MaxUint64} {
		scans(t, fmt.Sprintf("P10.3 Scan of frames 5 and 6 from %d on", first), s, first, nil, 0, api.ErrForm)
	}
	_, s = rowOf(5, "a", "b", "c")
	scans(t, "P10.3 Scan of frames 5, 6 and 7, cut to the last two, from 6 on", s[17:], 6, []api.Record{{Number: 6, Text: "b"}, {Number: 7, Text: "c"}}, 34, api.OK)
}

// TestScanErrors: what Decode tells of the rest is told, whatever number stands there, and what is behind it is not read.
func TestScanErrors(t *testing.T) {
	want, s := rowOf(math.MaxUint64, "a", "", "bcd")
	next := byRule(2, "good")
	for _, c := range []struct {
		about string
		rest  string
		want  api.Errno
	}{
		{"another sum", turned(byRule(2, "good"), 13*8, 1), api.ErrSum},
		{"another text", byRule(2, "good")[:19] + "x", api.ErrSum},
		{"another number, and so another sum", big(4, 4) + big(8, 3) + next[12:], api.ErrSum},
		{"more than MaxRecord", telling(api.MaxRecord+1, 2, ""), api.ErrLong},
		{"more than MaxRecord, and another number", telling(math.MaxUint32, 77, "abc"), api.ErrLong},
		{"a byte", "\x00", api.ErrTorn},
		{"fifteen bytes", strings.Repeat("\xff", 15), api.ErrTorn},
		{"the first bytes alone", next[:16], api.ErrTorn},
		{"a frame less a byte", next[:19], api.ErrTorn},
		{"a frame less a byte, and another number", byRule(77, "good")[:19], api.ErrTorn},
		{"bytes 0", strings.Repeat("\x00", 40), api.ErrSum},
	} {
		for whole, n := range []int{0, 17, 33, 52} {
			about := fmt.Sprintf("P10.3 Scan of %d frames and %s", whole, c.about)
			scans(t, about, s[:n]+c.rest, math.MaxUint64, want[:whole], n, c.want)
			if c.want == api.ErrTorn {
				continue
			}
			scans(t, about+", and whole ones behind", s[:n]+c.rest+next+next, math.MaxUint64, want[:whole], n, c.want)
		}
	}
}

// P10.4

func TestWrittenIsRead(t *testing.T) {
	all := ""
	var want []api.Record
	for i, text := range append(someTexts(), pattern(api.MaxRecord-1, 3), pattern(api.MaxRecord, 4)) {
		for _, number := range someNumbers() {
			s, err := Encode(api.Record{Number: number, Text: text})
			if err != api.OK {
				t.Fatalf("P10.4 Encode(%d, %.12q): %v", number, text, err)
			}
			decodes(t, "P10.4 Decode of what was written", s, number, text)
			scans(t, "P10.4 Scan of what was written", s, number, []api.Record{{Number: number, Text: text}}, len(s), api.OK)
		}
		r := api.Record{Number: 40 + uint64(i), Text: text}
		s, _ := Encode(r)
		want, all = append(want, r), all+s
	}
	scans(t, "P10.4 Scan of all that was written", all, 40, want, len(all), api.OK)
}

// TestCutAnywhere: the whole frames are read, and the rest is told as torn, if there is one.
func TestCutAnywhere(t *testing.T) {
	for _, first := range []uint64{0, 1, math.MaxUint64 - 2} {
		texts := []string{"a", "", pattern(40, 1), "", "", "\x00\x00", pattern(300, 2), byRule(1, "a")}
		want, s := rowOf(first, texts...)
		whole, used := 0, 0
		for n := range len(s) + 1 {
			if whole < len(texts) && n == used+16+len(texts[whole]) {
				used = n
				whole++
			}
			e := api.ErrTorn
			if n == used {
				e = api.OK
			}
			scans(t, fmt.Sprintf("P10.4 Scan of frames cut off behind %d bytes", n), s[:n], first, want[:whole], used, e)
			if left := s[used:n]; left != "" {
				refuses(t, fmt.Sprintf("P10.4 Decode of the last %d bytes", len(left)), left, api.ErrTorn)
			}
		}
		if whole != len(texts) {
			t.Errorf("P10.4 %d frames were gone through, want %d", whole, len(texts))
		}
	}
}

// someMasks are rows of bits to be turned, of at most so many bits.
func someMasks(bits int) []uint32 {
	l := []uint32{1, 2, 3, 0xFF, 0x101, 0x80000001, 0x80000000, 0xFFFF0000, math.MaxUint32, 0xEDB88320, 0x82608EDB, 0xDB710641}
	for i := range 32 {
		l = append(l, 1<<i, 1|1<<i, math.MaxUint32>>i)
	}
	mask := uint32(1)
	for range 300 {
		mask = mask*1664525 + 1013904223 // any rows of bits
		l = append(l, mask)
	}
	for i := range l {
		l[i] &= math.MaxUint32 >> (32 - bits)
	}
	return slices.DeleteFunc(l, func(m uint32) bool { return m == 0 })
}

// TestTurnedBits: bits of a number, of a sum or of a text, within 32 in a row, at each place, in a frame alone and behind a whole one.
func TestTurnedBits(t *testing.T) {
	for _, text := range []string{"a", "bcd", pattern(4, 0), pattern(19, 5)} {
		s := byRule(0x0102030405060708, text)
		ahead := byRule(0x0102030405060707, "ahead")
		before := []api.Record{{Number: 0x0102030405060707, Text: "ahead"}}
		for _, part := range []struct {
			name     string
			from, to int // bytes
		}{{"number", 4, 12}, {"sum", 12, 16}, {"text", 16, 16 + len(text)}} {
			bits := min(32, (part.to-part.from)*8)
			for at := part.from * 8; at+bits <= part.to*8; at++ {
				for _, mask := range someMasks(bits) {
					other := turned(s, at, mask)
					about := fmt.Sprintf("P10.4 bits %#x of the %s turned from %d on, of a text of %d bytes", mask, part.name, at, len(text))
					refuses(t, "Decode, "+about, other, api.ErrSum)
					scans(t, "Scan, "+about, ahead+other, before[0].Number, before, len(ahead), api.ErrSum)
				}
			}
		}
	}
}

// TestTurnedBitsInLongTexts: one bit, or two within 32, somewhere in the longest text.
func TestTurnedBitsInLongTexts(t *testing.T) {
	s := byRule(1, pattern(api.MaxRecord, 6))
	last := (len(s) - 4) * 8
	for _, at := range []int{16 * 8, 16*8 + 1, 5000, 262144, 400001, last - 9, last} {
		for _, mask := range []uint32{1, 0x80000001, math.MaxUint32, 0x00010000} {
			refuses(t, fmt.Sprintf("P10.4 bits %#x of MaxRecord bytes turned from %d on", mask, at), turned(s, at, mask), api.ErrSum)
		}
	}
}

// TestAnyBytes: Decode and Scan end with what the chapter's words tell, whatever they are given.
func TestAnyBytes(t *testing.T) {
	seed := uint32(1)
	for range 3000 {
		b := []byte(byRule(1, pattern(int(seed>>20)%40, 0)) + byRule(2, "x"))
		for range seed >> 30 {
			seed = seed*1664525 + 1013904223
			b[int(seed>>8)%len(b)] ^= byte(seed >> 24)
		}
		seed = seed*1664525 + 1013904223
		s := string(b[:len(b)-int(seed>>8)%len(b)*int(seed>>31)])
		want, used, e := scanByRule(s, 1)
		scans(t, fmt.Sprintf("P10.3 Scan of %x", s), s, 1, want, used, e)
	}
}

// scanByRule is Scan by the chapter's words, made by no function of this package.
func scanByRule(s string, first uint64) (l []api.Record, used int, e api.Errno) {
	for s != "" {
		if len(s) < 16 {
			return l, used, api.ErrTorn
		}
		long, number := 0, uint64(0)
		for _, b := range []byte(s[:4]) {
			long = long*256 + int(b)
		}
		for _, b := range []byte(s[4:12]) {
			number = number*256 + uint64(b)
		}
		switch {
		case long > 65536:
			return l, used, api.ErrLong
		case len(s) < 16+long:
			return l, used, api.ErrTorn
		case s[:16+long] != byRule(number, s[16:16+long]):
			return l, used, api.ErrSum
		case number != first+uint64(len(l)):
			return l, used, api.ErrForm
		}
		l = append(l, api.Record{Number: number, Text: s[16 : 16+long]})
		used += 16 + long
		s = s[16+long:]
	}
	return l, used, api.OK
}
