package wire

import (
	"fmt"
	"math"
	"math/big"
	"reflect"
	"slices"
	"strings"
	"testing"
	"unsafe"

	"scrinium/api"
	"scrinium/word"
)

// bytes is a text of these bytes.
func bytes(l ...byte) string { return string(l) }

// unhex is the bytes of a hex text that stands in a test.
func unhex(s string) string {
	b, is := word.Unhex(s)
	if !is {
		panic("no hex text: " + s)
	}
	return b
}

// pattern is n bytes that repeat only after 256, from one of them on.
func pattern(n, from int) string {
	b := make([]byte, n)
	for i := range b {
		b[i] = byte((i+from)*7 + 3)
	}
	return string(b)
}

// someNumbers are edges: about each power of two, and of any length of bytes.
func someNumbers() []uint64 {
	l := []uint64{0, 300, 0x0102030405060708, 0xF0E1D2C3B4A59687, math.MaxUint64, math.MaxUint64 - 1}
	for i := range 64 {
		l = append(l, 1<<i, 1<<i-1, 1<<i+1)
	}
	return l
}

// someWholes are whole numbers, of both signs.
func someWholes() []int64 {
	var l []int64
	for _, n := range someNumbers() {
		l = append(l, int64(n), -int64(n))
	}
	return append(l, math.MinInt64, math.MinInt64+1, math.MaxInt64, math.MaxInt64-1)
}

// someTexts are texts of all kinds of lengths and bytes.
func someTexts() []string {
	l := []string{"", "\x00", "\x01", "\x7f", "\x80", "\xff", "a", "bc", "\xc3\xa4\xff\xfe", strings.Repeat("\x00", 10), strings.Repeat("\xff", 10)}
	for _, n := range []int{126, 127, 128, 129, 255, 256, 300, 16383, 16384} {
		l = append(l, pattern(n, n))
	}
	return l
}

// byRule is a number's bytes by the chapter's words, made by no function of this package.
func byRule(n *big.Int) string {
	rest, seven := new(big.Int).Set(n), big.NewInt(128)
	var b []byte
	for {
		low := new(big.Int)
		rest.DivMod(rest, seven, low)
		if rest.Sign() == 0 {
			return string(append(b, byte(low.Int64())))
		}
		b = append(b, byte(low.Int64()+128))
	}
}

// wholeByRule is a whole number's bytes by the chapter's words.
func wholeByRule(n int64) string {
	twice := new(big.Int).Mul(big.NewInt(n), big.NewInt(2))
	if n < 0 {
		twice.Neg(twice)
		twice.Sub(twice, big.NewInt(1))
	}
	return byRule(twice)
}

// readByRule is the number in front of s by the chapter's words, and how many bytes it has.
func readByRule(s string) (uint64, int, api.Errno) {
	last := slices.IndexFunc([]byte(s[:min(len(s), 10)]), func(b byte) bool { return b < 128 })
	if last < 0 && len(s) < 10 {
		return 0, 0, api.ErrEnd
	}
	if last < 0 || last > 0 && s[last] == 0 {
		return 0, 0, api.ErrForm
	}
	n := new(big.Int)
	for i := last; i >= 0; i-- {
		n.Mul(n, big.NewInt(128)).Add(n, big.NewInt(int64(s[i]%128)))
	}
	if !n.IsUint64() {
		return 0, 0, api.ErrForm
	}
	return n.Uint64(), last + 1, api.OK
}

// want says where a reader has something else left, or another fault.
func want(t *testing.T, about string, r *Reader, left int, fault api.Errno) {
	t.Helper()
	if r.Left() != left || r.Err() != fault {
		t.Errorf("%s: %d left, %v, want %d, %v", about, r.Left(), r.Err(), left, fault)
	}
}

// stays says where a reader forgets a fault, takes something behind it, or answers something.
func stays(t *testing.T, about string, r *Reader, left int, fault api.Errno) {
	t.Helper()
	want(t, about, r, left, fault)
	for range 2 {
		n, whole, text, is := r.Uint(math.MaxUint64), r.Int(math.MinInt64, math.MaxInt64), r.Text(math.MaxInt), r.Bool()
		count, list := r.Count(math.MaxInt), r.List(math.MaxInt, math.MaxInt)
		if n != 0 || whole != 0 || text != "" || is || count != 0 || len(list) != 0 {
			t.Errorf("%s: behind the fault %d, %d, %q, %v, %d, %q", about, n, whole, text, is, count, list)
		}
		// Bounds that would be a fault of their own are none any more.
		r.Int(1, 0)
		r.Text(-1)
		r.Count(-1)
		r.List(-1, -1)
		if e := r.End(); e != fault {
			t.Errorf("%s: End behind the fault: %v, want %v", about, e, fault)
		}
		want(t, about+", later", r, left, fault)
	}
}

// P8.1

// TestUintsKnown: 0, 127, 128 and 300 are the chapter's examples.
func TestUintsKnown(t *testing.T) {
	for _, c := range []struct {
		n   uint64
		hex string
	}{
		{0, "00"},
		{1, "01"},
		{127, "7f"},
		{128, "8001"},
		{255, "ff01"},
		{256, "8002"},
		{300, "ac02"},
		{16383, "ff7f"},
		{16384, "808001"},
		{1<<32 - 1, "ffffffff0f"},
		{1<<63 - 1, "ffffffffffffffff7f"},
		{1 << 63, "80808080808080808001"},
		{math.MaxUint64 - 1, "feffffffffffffffff01"},
		{math.MaxUint64, "ffffffffffffffffff01"},
	} {
		if got := Uints(c.n); got != unhex(c.hex) {
			t.Errorf("P8.1 Uints(%d): %x, want %s", c.n, got, c.hex)
		}
	}
	if got := Uints(0, 127, 128, 300); got != bytes(0, 127, 128, 1, 172, 2) {
		t.Errorf("P8.1 Uints(0, 127, 128, 300): %x", got)
	}
}

// TestIntsKnown: 0, -1, 1, -2 and -3 are the chapter's.
func TestIntsKnown(t *testing.T) {
	for _, c := range []struct {
		n   int64
		hex string
	}{
		{0, "00"},
		{-1, "01"},
		{1, "02"},
		{-2, "03"},
		{2, "04"},
		{-3, "05"},
		{63, "7e"},
		{-64, "7f"},
		{64, "8001"},
		{-65, "8101"},
		{1 << 31, "8080808010"},
		{-1 << 31, "ffffffff0f"},
		{math.MaxInt64, "feffffffffffffffff01"},
		{math.MinInt64 + 1, "fdffffffffffffffff01"},
		{math.MinInt64, "ffffffffffffffffff01"},
	} {
		if got := Ints(c.n); got != unhex(c.hex) {
			t.Errorf("P8.1 Ints(%d): %x, want %s", c.n, got, c.hex)
		}
	}
	if got := Ints(0, -1, 1, -2); got != bytes(0, 1, 2, 3) {
		t.Errorf("P8.1 Ints(0, -1, 1, -2): %x", got)
	}
}

func TestNumbersByTheRule(t *testing.T) {
	for _, n := range someNumbers() {
		if got, want := Uints(n), byRule(new(big.Int).SetUint64(n)); got != want {
			t.Errorf("P8.1 Uints(%d): %x, want %x", n, got, want)
		}
	}
	for _, n := range someWholes() {
		if got, want := Ints(n), wholeByRule(n); got != want {
			t.Errorf("P8.1 Ints(%d): %x, want %x", n, got, want)
		}
	}
}

func TestTextsKnown(t *testing.T) {
	for _, c := range []struct{ s, want string }{
		{"", "\x00"},
		{"\x00", "\x01\x00"},
		{"a", "\x01a"},
		{"bc", "\x02bc"},
		{"\xff\x80", "\x02\xff\x80"},
		{pattern(127, 0), "\x7f" + pattern(127, 0)},
		{pattern(128, 0), "\x80\x01" + pattern(128, 0)},
		{pattern(300, 0), "\xac\x02" + pattern(300, 0)},
		{pattern(1<<16, 0), "\x80\x80\x04" + pattern(1<<16, 0)},
	} {
		if got := Texts(c.s); got != c.want {
			t.Errorf("P8.1 Texts of %d bytes (%.12q): %.20q of %d bytes, want %.20q of %d", len(c.s), c.s, got, len(got), c.want, len(c.want))
		}
	}
	if got := Texts("a", "", "bc"); got != bytes(1, 'a', 0, 2, 'b', 'c') {
		t.Errorf("P8.1 Texts(a, , bc): %x", got)
	}
}

func TestBoolsKnown(t *testing.T) {
	if got := Bools(false); got != "\x00" {
		t.Errorf("P8.1 Bools(false): %x", got)
	}
	if got := Bools(true); got != "\x01" {
		t.Errorf("P8.1 Bools(true): %x", got)
	}
	if got := Bools(true, false, false, true, true); got != "\x01\x00\x00\x01\x01" {
		t.Errorf("P8.1 Bools of five: %x", got)
	}
}

// TestListKnown: a, bc is the chapter's example.
func TestListKnown(t *testing.T) {
	for _, c := range []struct {
		l    []string
		want string
	}{
		{nil, "\x00"},
		{[]string{}, "\x00"},
		{[]string{""}, "\x01\x00"},
		{[]string{"", ""}, "\x02\x00\x00"},
		{[]string{"a", "bc"}, bytes(2, 1, 'a', 2, 'b', 'c')},
		{[]string{pattern(128, 3)}, "\x01\x80\x01" + pattern(128, 3)},
		{make([]string, 127), "\x7f" + strings.Repeat("\x00", 127)},
		{make([]string, 128), "\x80\x01" + strings.Repeat("\x00", 128)},
		{slices.Repeat([]string{"x"}, 300), "\xac\x02" + strings.Repeat("\x01x", 300)},
	} {
		if got := List(c.l); got != c.want {
			t.Errorf("P8.1 List of %d (%.12q): %.20q of %d bytes, want %.20q of %d", len(c.l), c.l, got, len(got), c.want, len(c.want))
		}
	}
}

func TestNothingHasNoBytes(t *testing.T) {
	if Uints() != "" || Ints() != "" || Texts() != "" || Bools() != "" {
		t.Errorf("P8.1 none: %x, %x, %x, %x", Uints(), Ints(), Texts(), Bools())
	}
	if Uints([]uint64{}...) != "" || Ints([]int64{}...) != "" || Texts([]string{}...) != "" || Bools([]bool{}...) != "" {
		t.Error("P8.1 bytes of an empty list")
	}
}

// apart is the bytes of each one of l, made one by one.
func apart[T any](l []T, write func(l ...T) string) string {
	all := ""
	for _, one := range l {
		all += write(one)
	}
	return all
}

// TestOneBehindTheOther: several are as each alone, and what is handed in stays as it is.
func TestOneBehindTheOther(t *testing.T) {
	numbers, wholes, texts, truths := someNumbers(), someWholes(), someTexts(), []bool{true, false, false, true}
	if Uints(numbers...) != apart(numbers, Uints) || Ints(wholes...) != apart(wholes, Ints) {
		t.Error("P8.1 numbers in a row are not as each alone")
	}
	if Texts(texts...) != apart(texts, Texts) || Bools(truths...) != apart(truths, Bools) {
		t.Error("P8.1 texts, or truths, in a row are not as each alone")
	}
	if List(texts) != Uints(uint64(len(texts)))+apart(texts, Texts) {
		t.Error("P8.1 a list is not its number and its texts")
	}
	if !slices.Equal(numbers, someNumbers()) || !slices.Equal(wholes, someWholes()) || !slices.Equal(texts, someTexts()) || !slices.Equal(truths, []bool{true, false, false, true}) {
		t.Error("P8.1 an argument was changed")
	}
}

// P8.2

func TestUintReads(t *testing.T) {
	for _, behind := range []string{"", "\x00", "\x01", "\x80", "\xff", strings.Repeat("\xff", 12)} {
		for _, n := range someNumbers() {
			r := New(byRule(new(big.Int).SetUint64(n)) + behind)
			if got := r.Uint(math.MaxUint64); got != n {
				t.Errorf("P8.2 Uint: %d, want %d", got, n)
			}
			want(t, fmt.Sprint("P8.2 Uint of ", n), r, len(behind), api.OK)
		}
	}
}

func TestUintMost(t *testing.T) {
	for _, n := range someNumbers() {
		s := byRule(new(big.Int).SetUint64(n)) + "z"
		for _, most := range someNumbers() {
			about := fmt.Sprintf("P8.2 Uint(%d) of %d", most, n)
			r := New(s)
			got := r.Uint(most)
			if n > most {
				if got != 0 {
					t.Errorf("%s: %d", about, got)
				}
				want(t, about, r, len(s), api.ErrOver)
				continue
			}
			if got != n {
				t.Errorf("%s: %d", about, got)
			}
			want(t, about, r, 1, api.OK)
		}
	}
	r := New("\x01")
	r.Uint(0)
	stays(t, "P8.2 Uint(0) of 1", r, 1, api.ErrOver)
}

// wrongNumbers are bytes in front of which no number is.
func wrongNumbers() map[string]api.Errno {
	nine := strings.Repeat("\xff", 9)
	m := map[string]api.Errno{
		"":                    api.ErrEnd,
		"\x80":                api.ErrEnd,
		"\xff":                api.ErrEnd,
		"\x80\x80":            api.ErrEnd,
		nine:                  api.ErrEnd,
		"\x80\x00":            api.ErrForm, // the chapter's example
		"\xff\x00":            api.ErrForm,
		"\x80\x80\x00":        api.ErrForm,
		"\x81\x80\x00\x05":    api.ErrForm,
		nine + "\x00":         api.ErrForm,
		nine + "\x02":         api.ErrForm,
		nine + "\x03":         api.ErrForm,
		nine + "\x7f":         api.ErrForm,
		nine + "\x80":         api.ErrForm,
		nine + "\x81":         api.ErrForm,
		nine + "\xff":         api.ErrForm,
		nine + "\x80\x00":     api.ErrForm,
		nine + "\x80\x01":     api.ErrForm,
		nine + "\xff\x01\x01": api.ErrForm,
	}
	for n := range 16 {
		s := strings.Repeat("\x80", n)
		m[s] = api.ErrEnd
		if n > 9 {
			m[s] = api.ErrForm
		}
		if n > 0 {
			m[s+"\x00"] = api.ErrForm
			m[s+"\x00\x01"] = api.ErrForm
		}
	}
	return m
}

// numberReads are all calls that take a number first; with bounds within which each is, and with such within which none but 0, or none at all, is.
func numberReads() map[string]func(r *Reader) any {
	return map[string]func(r *Reader) any{
		"Uint(2^64 - 1)":        func(r *Reader) any { return r.Uint(math.MaxUint64) },
		"Uint(0)":               func(r *Reader) any { return r.Uint(0) },
		"Int(-2^63, 2^63 - 1)":  func(r *Reader) any { return r.Int(math.MinInt64, math.MaxInt64) },
		"Int(1, 0)":             func(r *Reader) any { return r.Int(1, 0) },
		"Text(greatest)":        func(r *Reader) any { return r.Text(math.MaxInt) },
		"Text(-1)":              func(r *Reader) any { return r.Text(-1) },
		"Count(greatest)":       func(r *Reader) any { return r.Count(math.MaxInt) },
		"Count(least)":          func(r *Reader) any { return r.Count(math.MinInt) },
		"List(greatest, twice)": func(r *Reader) any { return r.List(math.MaxInt, math.MaxInt) },
		"List(-1, -1)":          func(r *Reader) any { return r.List(-1, -1) },
	}
}

// TestNumbersErrors: a number's errors are ahead of what is beyond bounds, in all calls.
func TestNumbersErrors(t *testing.T) {
	for s, fault := range wrongNumbers() {
		for name, read := range numberReads() {
			about := fmt.Sprintf("P8.2 P8.3 %s of %x", name, s)
			r := New(s)
			if got := read(r); !reflect.ValueOf(got).IsZero() {
				t.Errorf("%s: %v", about, got)
			}
			stays(t, about, r, len(s), fault)
		}
	}
}

// TestShortBytesByTheRule: all texts of up to two bytes, and such whose last byte stands anywhere.
func TestShortBytesByTheRule(t *testing.T) {
	l := []string{""}
	for a := range 256 {
		l = append(l, bytes(byte(a)))
		for b := range 256 {
			l = append(l, bytes(byte(a), byte(b)))
		}
		for n := range 13 {
			for _, front := range []string{"\x80", "\x81", "\xff"} {
				s := strings.Repeat(front, n) + bytes(byte(a))
				l = append(l, s, s+"\x00", s+"\x01", s+"\x80")
			}
		}
	}
	for _, s := range l {
		n, size, fault := readByRule(s)
		r := New(s)
		if got := r.Uint(math.MaxUint64); got != n {
			t.Errorf("P8.2 Uint of %x: %d, want %d", s, got, n)
		}
		want(t, fmt.Sprintf("P8.2 Uint of %x", s), r, len(s)-size, fault)
		r = New(s)
		whole := r.Int(math.MinInt64, math.MaxInt64)
		if fault == api.OK && wholeByRule(whole) != s[:size] || fault != api.OK && whole != 0 {
			t.Errorf("P8.2 Int of %x: %d", s, whole)
		}
		want(t, fmt.Sprintf("P8.2 Int of %x", s), r, len(s)-size, fault)
	}
}

func TestIntReads(t *testing.T) {
	for _, n := range someWholes() {
		for _, bounds := range [][2]int64{{math.MinInt64, math.MaxInt64}, {n, n}, {min(n, 0), max(n, 0)}, {math.MinInt64, n}, {n, math.MaxInt64}} {
			r := New(wholeByRule(n) + "\x80")
			if got := r.Int(bounds[0], bounds[1]); got != n {
				t.Errorf("P8.2 Int%v: %d, want %d", bounds, got, n)
			}
			want(t, fmt.Sprintf("P8.2 Int%v of %d", bounds, n), r, 1, api.OK)
		}
	}
}

func TestIntBeyondBounds(t *testing.T) {
	for _, c := range []struct{ n, low, high int64 }{
		{0, 1, 1},
		{0, -1, -1},
		{0, 1, math.MaxInt64},
		{0, math.MinInt64, -1},
		{0, 1, 0},
		{0, 1, -1},
		{1, math.MaxInt64, math.MinInt64},
		{-1, 0, math.MaxInt64},
		{-2, -1, 1},
		{2, -1, 1},
		{-3, 3, 3},
		{3, -3, -3},
		{math.MinInt64, math.MinInt64 + 1, math.MaxInt64},
		{math.MaxInt64, math.MinInt64, math.MaxInt64 - 1},
		{math.MinInt64, math.MaxInt64, math.MaxInt64},
		{math.MaxInt64, math.MinInt64, math.MinInt64},
	} {
		s := wholeByRule(c.n) + "\x00"
		about := fmt.Sprintf("P8.2 Int(%d, %d) of %d", c.low, c.high, c.n)
		r := New(s)
		if got := r.Int(c.low, c.high); got != 0 {
			t.Errorf("%s: %d", about, got)
		}
		stays(t, about, r, len(s), api.ErrOver)
	}
}

func TestBoolEachByte(t *testing.T) {
	for b := range 256 {
		for _, behind := range []string{"", "\x00", "\x01\x01"} {
			s := bytes(byte(b)) + behind
			about := fmt.Sprintf("P8.2 Bool of %x", s)
			r := New(s)
			if got := r.Bool(); got != (b == 1) {
				t.Errorf("%s: %v", about, got)
			}
			if b > 1 {
				stays(t, about, r, len(s), api.ErrForm)
			} else {
				want(t, about, r, len(behind), api.OK)
			}
		}
	}
	r := New("")
	if r.Bool() {
		t.Error("P8.2 Bool of no byte: true")
	}
	stays(t, "P8.2 Bool of no byte", r, 0, api.ErrEnd)
}

// P8.3

func TestTextReads(t *testing.T) {
	for _, s := range someTexts() {
		for _, most := range []int{len(s), len(s) + 1, math.MaxInt} {
			for _, behind := range []string{"", "\x00", "\xffmore"} {
				r := New(byRule(big.NewInt(int64(len(s)))) + s + behind)
				if got := r.Text(most); got != s {
					t.Errorf("P8.3 Text(%d) of %d bytes (%.12q): %d bytes (%.12q)", most, len(s), s, len(got), got)
				}
				want(t, fmt.Sprintf("P8.3 Text(%d) of %d bytes", most, len(s)), r, len(behind), api.OK)
			}
		}
	}
}

// longs are bytes of numbers that are too long for what is behind them, or for a bound; ErrLong is ahead of ErrEnd.
func longs() []struct {
	s     string
	most  int
	fault api.Errno
} {
	return []struct {
		s     string
		most  int
		fault api.Errno
	}{
		{"\x00", -1, api.ErrLong},
		{"\x00", math.MinInt, api.ErrLong},
		{"\x01a", -1, api.ErrLong},
		{"\x01", -1, api.ErrLong},
		{"\x01a", 0, api.ErrLong},
		{"\x01", 0, api.ErrLong},
		{"\x03\x01a\x00", 2, api.ErrLong},
		{"\x03ab", 2, api.ErrLong},
		{"\x01", 1, api.ErrEnd},
		{"\x01", math.MaxInt, api.ErrEnd},
		{"\x03ab", 3, api.ErrEnd},
		{"\x03ab", 4, api.ErrEnd},
		{"\x80\x01" + pattern(127, 0), 128, api.ErrEnd},
		{"\x80\x01" + pattern(128, 0), 127, api.ErrLong},
		{Uints(1<<31) + "a", math.MaxInt, api.ErrEnd},
		{Uints(1<<32) + "a", 1<<32 - 1, api.ErrLong},
		{Uints(1<<32) + "a", 1 << 32, api.ErrEnd},
		{Uints(1<<32) + "a", 1, api.ErrLong},
		{Uints(math.MaxInt), math.MaxInt, api.ErrEnd},
		{Uints(math.MaxInt), math.MaxInt - 1, api.ErrLong},
		{Uints(math.MaxInt + 1), math.MaxInt, api.ErrLong},
		{Uints(math.MaxUint64) + "abc", math.MaxInt, api.ErrLong},
		{Uints(math.MaxUint64) + "abc", -1, api.ErrLong},
		{Uints(math.MaxUint64-3) + "abc", math.MaxInt, api.ErrLong},
	}
}

func TestLongs(t *testing.T) {
	for _, c := range longs() {
		for name, read := range map[string]func(r *Reader) any{
			"Text":  func(r *Reader) any { return r.Text(c.most) },
			"Count": func(r *Reader) any { return r.Count(c.most) },
			"List":  func(r *Reader) any { return r.List(c.most, math.MaxInt) },
		} {
			about := fmt.Sprintf("P8.3 %s(%d) of %.12x", name, c.most, c.s)
			r := New(c.s)
			if got := read(r); !reflect.ValueOf(got).IsZero() {
				t.Errorf("%s: %v", about, got)
			}
			stays(t, about, r, len(c.s), c.fault)
		}
	}
}

func TestCountReads(t *testing.T) {
	for _, n := range []int{0, 1, 2, 127, 128, 300, 16384} {
		for _, most := range []int{n, n + 1, math.MaxInt} {
			for _, behind := range []int{n, n + 1, n + 200} {
				r := New(byRule(big.NewInt(int64(n))) + pattern(behind, 1))
				if got := r.Count(most); got != n {
					t.Errorf("P8.3 Count(%d): %d, want %d", most, got, n)
				}
				want(t, fmt.Sprintf("P8.3 Count(%d) of %d", most, n), r, behind, api.OK)
			}
		}
	}
}

func TestListReads(t *testing.T) {
	for _, l := range [][]string{nil, {""}, {"", ""}, {"a", "bc"}, {"bc", "a", ""}, make([]string, 127), make([]string, 128), slices.Repeat([]string{"xyz"}, 300), someTexts()} {
		longest := 0
		for _, s := range l {
			longest = max(longest, len(s))
		}
		for _, behind := range []string{"", "\x00", "\xff"} {
			for _, most := range []int{len(l), len(l) + 1, math.MaxInt} {
				for _, each := range []int{longest, longest + 1, math.MaxInt} {
					r := New(List(l) + behind)
					if got := r.List(most, each); !slices.Equal(got, l) {
						t.Errorf("P8.3 List(%d, %d) of %d: %.40q", most, each, len(l), got)
					}
					want(t, fmt.Sprintf("P8.3 List(%d, %d) of %d", most, each, len(l)), r, len(behind), api.OK)
				}
			}
		}
	}
	r := New("\x00")
	if got := r.List(0, -1); len(got) != 0 {
		t.Errorf("P8.3 List(0, -1) of none: %q", got)
	}
	want(t, "P8.3 List(0, -1) of none", r, 0, api.OK)
}

// TestListFaults: what was taken ahead of the fault stays taken, and of the list there is nothing.
func TestListFaults(t *testing.T) {
	nine := strings.Repeat("\x80", 9)
	for _, c := range []struct {
		s          string
		most, each int
		left       int
		fault      api.Errno
	}{
		{"\x03\x01a\x00", 2, 9, 4, api.ErrLong},
		{"\x03\x01a\x00", 3, 9, 0, api.ErrEnd},
		{"\x03\x00\x00", 3, 9, 3, api.ErrEnd},
		{"\x01\x00", 1, -1, 1, api.ErrLong},
		{"\x01\x01a", 1, 0, 2, api.ErrLong},
		{"\x02\x01a\x02bc", 2, 1, 3, api.ErrLong},
		{"\x02\x01a\x02b", 2, 2, 2, api.ErrEnd},
		{"\x02\x01a\x02b", 2, 1, 2, api.ErrLong},
		{"\x02\x01a\x02", 2, 2, 1, api.ErrEnd},
		{"\x02\x01a\x80", 2, 2, 1, api.ErrEnd},
		{"\x02\x01a\x80\x00", 2, 2, 2, api.ErrForm},
		{"\x02\x01a\x80\x00", 2, -1, 4, api.ErrLong},
		{"\x02\x01a" + nine + "\x02", 2, 2, 10, api.ErrForm},
		{"\x02\x01a" + nine + "\x80\x80", 2, 2, 11, api.ErrForm},
		{"\x03\x01a\x05bc\x00d", 3, 4, 5, api.ErrLong},
		{"\x03\x01a\x05bc\x00d", 3, 5, 5, api.ErrEnd},
	} {
		about := fmt.Sprintf("P8.3 List(%d, %d) of %x", c.most, c.each, c.s)
		r := New(c.s)
		if got := r.List(c.most, c.each); len(got) != 0 {
			t.Errorf("%s: %q", about, got)
		}
		stays(t, about, r, c.left, c.fault)
	}
}

// TestAnswersAreTheirOwn: no list has another one's memory, no text the reader's.
func TestAnswersAreTheirOwn(t *testing.T) {
	s := List([]string{"abc", "def"})
	one, two := New(s+s), New(s)
	first, second, other := one.List(9, 9), one.List(9, 9), two.List(9, 9)
	first[0], second[1] = "changed", "changed"
	_, _ = append(first, "x"), append(second, "y")
	if !slices.Equal(first, []string{"changed", "def"}) || !slices.Equal(second, []string{"abc", "changed"}) || !slices.Equal(other, []string{"abc", "def"}) {
		t.Errorf("P8.3 lists: %q, %q, %q", first, second, other)
	}
	text := New(s[1:]).Text(9)
	if at := uintptr(unsafe.Pointer(unsafe.StringData(s))); within(text, at, len(s)) || within(other[0], at, len(s)) {
		t.Error("P8.3 a text has the memory of what is read")
	}
}

// within tells whether a text stands in the n bytes of memory from at on.
func within(text string, at uintptr, n int) bool {
	p := uintptr(unsafe.Pointer(unsafe.StringData(text)))
	return p >= at && p < at+uintptr(n)
}

// P8.4

func TestLeft(t *testing.T) {
	r := New(Uints(300, 1) + Ints(-3) + Texts("abc") + Bools(true) + List([]string{"x", "yz"}) + Uints(1) + "z")
	for i, step := range []struct {
		read func() bool
		left int
	}{
		{func() bool { return r.Err() == api.OK }, 17},
		{func() bool { return r.Uint(300) == 300 }, 15},
		{func() bool { return r.Uint(1) == 1 }, 14},
		{func() bool { return r.Int(-3, -3) == -3 }, 13},
		{func() bool { return r.Text(3) == "abc" }, 9},
		{func() bool { return r.Bool() }, 8},
		{func() bool { return slices.Equal(r.List(2, 2), []string{"x", "yz"}) }, 2},
		{func() bool { return r.Count(1) == 1 }, 1},
	} {
		if !step.read() {
			t.Errorf("P8.4 step %d: another answer", i)
		}
		want(t, fmt.Sprint("P8.4 step ", i), r, step.left, api.OK)
	}
	if New("").Left() != 0 || New("abc").Left() != 3 || New(pattern(70000, 0)).Left() != 70000 {
		t.Error("P8.4 Left of a new reader")
	}
}

// TestEnd: that bytes are left is a fault from then on, as each other one is; that none are is none.
func TestEnd(t *testing.T) {
	for _, s := range []string{"\x00", "\x01", "\x80", "a", "\x02\x01a\x02bc", pattern(300, 0)} {
		r := New(s)
		if e := r.End(); e != api.ErrForm {
			t.Errorf("P8.4 End ahead of %.12x: %v", s, e)
		}
		stays(t, fmt.Sprintf("P8.4 End ahead of %.12x", s), r, len(s), api.ErrForm)
	}
	r := New("\x01\x01\x00")
	r.Bool()
	if e := r.End(); e != api.ErrForm {
		t.Errorf("P8.4 End ahead of two bytes: %v", e)
	}
	stays(t, "P8.4 End ahead of two bytes", r, 2, api.ErrForm)

	r = New("\x01")
	r.Uint(1)
	for range 3 {
		if e := r.End(); e != api.OK {
			t.Errorf("P8.4 End behind all: %v", e)
		}
		want(t, "P8.4 End behind all", r, 0, api.OK)
	}
	// It is a reader still, whose bytes are at their end.
	r.Uint(1)
	stays(t, "P8.4 Uint behind an End", r, 0, api.ErrEnd)
	if e := New("").End(); e != api.OK {
		t.Errorf("P8.4 End of no bytes: %v", e)
	}
}

// TestFirstFaultStays: a later call that would have another fault, or none, changes nothing; nor does an End with bytes left.
func TestFirstFaultStays(t *testing.T) {
	const s = "\x02\x01\x00\x01\x05"
	for _, c := range []struct {
		s     string
		wrong func(r *Reader)
		left  int
		fault api.Errno
	}{
		{s, func(r *Reader) { r.Uint(1) }, 5, api.ErrOver},
		{s, func(r *Reader) { r.Int(-1, 0) }, 5, api.ErrOver},
		{s, func(r *Reader) { r.Bool() }, 5, api.ErrForm},
		{s, func(r *Reader) { r.Text(1) }, 5, api.ErrLong},
		{s, func(r *Reader) { r.Count(1) }, 5, api.ErrLong},
		{s, func(r *Reader) { r.List(1, 9) }, 5, api.ErrLong},
		{s, func(r *Reader) { r.End() }, 5, api.ErrForm},
		{s, func(r *Reader) { r.Text(9); r.Count(9); r.Text(9) }, 1, api.ErrEnd},
		{"\x02\x00\x02\x00", func(r *Reader) { r.List(2, 1) }, 2, api.ErrLong},
		{"\x02ab\x00", func(r *Reader) { r.Text(2); r.Text(9); r.Bool() }, 0, api.ErrEnd},
	} {
		r := New(c.s)
		c.wrong(r)
		stays(t, fmt.Sprintf("P8.4 %x, %v", c.s, c.fault), r, c.left, c.fault)
	}
}

func TestReaderThatIsNotThere(t *testing.T) {
	var none *Reader
	for name, r := range map[string]*Reader{"nil": none, "not made": {}, "new": new(Reader)} {
		for range 2 {
			if r.Err() != api.ErrNil || r.End() != api.ErrNil {
				t.Errorf("P8.4 %s: Err %v, End %v", name, r.Err(), r.End())
			}
			n, whole, text, is := r.Uint(math.MaxUint64), r.Int(math.MinInt64, math.MaxInt64), r.Text(math.MaxInt), r.Bool()
			count, list, left := r.Count(math.MaxInt), r.List(math.MaxInt, math.MaxInt), r.Left()
			if n != 0 || whole != 0 || text != "" || is || count != 0 || len(list) != 0 || left != 0 {
				t.Errorf("P8.4 %s: %d, %d, %q, %v, %d, %q, %d", name, n, whole, text, is, count, list, left)
			}
			if r.Int(1, 0) != 0 || r.Text(-1) != "" || r.Count(-1) != 0 || r.List(-1, -1) != nil {
				t.Errorf("P8.4 %s: an answer beyond bounds", name)
			}
		}
		if r != nil && *r != (Reader{}) {
			t.Errorf("P8.4 %s: it was changed", name)
		}
	}
}

// TestReadersAreApart: what one takes, or its fault, is nothing to another one of the same bytes.
func TestReadersAreApart(t *testing.T) {
	const s = "\x02\x01"
	one, two := New(s), New(s)
	one.Uint(1)
	want(t, "P8.4 the other reader", two, 2, api.OK)
	if two.Uint(2) != 2 || !two.Bool() || two.End() != api.OK {
		t.Error("P8.4 the other reader reads something else")
	}
	stays(t, "P8.4 the one reader", one, 2, api.ErrOver)
}

// P8.5

// draws are numbers that seem to be drawn, always the same.
type draws uint64

func (d *draws) next() uint64 {
	*d = *d*6364136223846793005 + 1442695040888963407
	return uint64(*d >> 33)
}

// brick is one of what is written and read.
type brick struct {
	kind  int
	n     uint64
	whole int64
	text  string
	is    bool
	list  []string
}

func (d *draws) brick() brick {
	b := brick{kind: int(d.next() % 5)}
	switch b.kind {
	case 0:
		b.n = (d.next()<<33 ^ d.next()) >> (d.next() % 64)
	case 1:
		b.whole = int64(d.next()<<33^d.next()) >> (d.next() % 64)
	case 2:
		b.text = pattern(int(d.next()%300), int(d.next()))
	case 3:
		b.is = d.next()%2 == 1
	case 4:
		for range d.next() % 5 {
			b.list = append(b.list, pattern(int(d.next()%5), int(d.next())))
		}
	}
	return b
}

func (b brick) write() string {
	return []func() string{
		func() string { return Uints(b.n) },
		func() string { return Ints(b.whole) },
		func() string { return Texts(b.text) },
		func() string { return Bools(b.is) },
		func() string { return List(b.list) },
	}[b.kind]()
}

// readBrick is what a reader answers of a kind, in the narrowest bounds within which like is, or, without it, in the widest ones.
func readBrick(r *Reader, kind int, like *brick) brick {
	most, low, high, size, each := uint64(math.MaxUint64), int64(math.MinInt64), int64(math.MaxInt64), math.MaxInt, math.MaxInt
	if like != nil {
		most, low, high, size, each = like.n, like.whole, like.whole, len(like.text)+len(like.list), 0
		for _, s := range like.list {
			each = max(each, len(s))
		}
	}
	b := brick{kind: kind}
	switch kind {
	case 0:
		b.n = r.Uint(most)
	case 1:
		b.whole = r.Int(low, high)
	case 2:
		b.text = r.Text(size)
	case 3:
		b.is = r.Bool()
	case 4:
		b.list = r.List(size, each)
	}
	return b
}

func TestWrittenIsRead(t *testing.T) {
	d := draws(1)
	for range 2000 {
		var l []brick
		all := ""
		for range d.next() % 12 {
			b := d.brick()
			l = append(l, b)
			all += b.write()
		}
		for _, narrow := range []bool{true, false} {
			r := New(all)
			for _, b := range l {
				like := &b
				if !narrow {
					like = nil
				}
				if got := readBrick(r, b.kind, like); !reflect.DeepEqual(got, b) {
					t.Fatalf("P8.5 %+v is read as %+v, %v", b, got, r.Err())
				}
			}
			if r.Left() != 0 || r.End() != api.OK {
				t.Fatalf("P8.5 %d left, %v", r.Left(), r.End())
			}
		}
	}
}

// TestReadIsWritten: of any bytes, those that were taken without a fault.
func TestReadIsWritten(t *testing.T) {
	d := draws(2)
	for range 20000 {
		b := make([]byte, d.next()%40)
		mask := []byte{255, 255, 131, 3}[d.next()%4]
		for i := range b {
			b[i] = byte(d.next()) & mask
		}
		s := string(b)
		for r, again := New(s), ""; r.Err() == api.OK; {
			again += readAgain(r, int(d.next()%5))
			if r.Err() == api.OK && again != s[:len(s)-r.Left()] {
				t.Fatalf("P8.5 of %x, %x were read, and are written as %x", s, s[:len(s)-r.Left()], again)
			}
			if r.Left() == 0 {
				break
			}
		}
	}
}

// readAgain is what a reader answers of a kind, written.
func readAgain(r *Reader, kind int) string { return readBrick(r, kind, nil).write() }

// TestShortBytesAreWrittenAsThemselves: all texts of two bytes, by each call.
func TestShortBytesAreWrittenAsThemselves(t *testing.T) {
	for i := range 1 << 16 {
		s := bytes(byte(i>>8), byte(i))
		for kind := range 5 {
			r := New(s)
			if again := readAgain(r, kind); r.Err() == api.OK && again != s[:len(s)-r.Left()] {
				t.Errorf("P8.5 kind %d: of %x, %x is written as %x", kind, s, s[:len(s)-r.Left()], again)
			}
		}
	}
}

// TestNoNumberBeginsWithAnother: in order, one that begins with another one would stand behind it, with but such between as begin with that, too.
func TestNoNumberBeginsWithAnother(t *testing.T) {
	var l []string
	for n := range uint64(70000) {
		l = append(l, Uints(n))
	}
	for _, n := range someNumbers() {
		if n >= 70000 {
			l = append(l, Uints(n))
		}
	}
	slices.Sort(l)
	l = slices.Compact(l)
	if len(l) < 70000 {
		t.Errorf("P8.5 numbers have the same bytes")
	}
	for i := range len(l) - 1 {
		if strings.HasPrefix(l[i+1], l[i]) {
			t.Errorf("P8.5 a number's bytes %x begin with another one's, %x", l[i+1], l[i])
		}
	}
	// And a beginning of one is none.
	for _, n := range someNumbers() {
		s := Uints(n)
		for cut := range len(s) {
			r := New(s[:cut])
			r.Uint(math.MaxUint64)
			stays(t, fmt.Sprintf("P8.5 %x, cut", s[:cut]), r, cut, api.ErrEnd)
		}
	}
}
