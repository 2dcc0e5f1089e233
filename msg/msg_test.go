package msg_test

import (
	"encoding/hex"
	"fmt"
	"math"
	"math/rand"
	"reflect"
	"slices"
	"strings"
	"testing"
	"unsafe"

	"scrinium/api"
	"scrinium/msg"
)

const greatest = math.MaxUint64

// The kinds of messages, and what is an example of each.
var kinds = []uint8{1, 2, 3, 4, 5, 6}

func ofN(n int) string { return strings.Repeat("n", n) }

// times is a list of n that are the same.
func times[T any](n int, one T) []T { return slices.Repeat([]T{one}, n) }

// rowsFull are rows with all that rows have.
func rowsFull() []api.Row {
	return []api.Row{
		{Path: "app/db", Cell: api.Cell{Last: 9, L: []api.Version{{N: 7, State: 1, Text: "one"}, {N: 8, State: 3}, {N: 9, State: 2}}}},
		{},
	}
}

// full is a message of a kind with all that it has.
func full(kind uint8) api.Msg {
	return kept(api.Msg{
		Kind: kind, Tx: api.Txid{Life: 3, N: 300}, Low: api.Txid{Life: 3, N: 128}, Map: 1 << 21, Parts: []uint32{1, 2, 1<<32 - 1},
		Ask: api.Ask{
			Shard: 2, Reads: []api.Read{{Path: "app/db"}, {Path: "x", N: 1 << 63}}, ReadAt: []int{0, 512},
			Edits: []api.Edit{
				{Kind: 1, Path: "app/key", Any: true, Text: "env"}, {Kind: 2, Path: "b", Want: 129, N: 5}, {Kind: 255, Want: greatest, N: 7, Text: "\x00\xff"},
			},
			EditAt: []int{1, 2, 127}, List: true, Prefix: "app", Take: true, Range: api.Range{From: 1, To: greatest},
		},
		Rows: rowsFull(), Next: 200, Own: []api.Range{{From: 0, To: 127}, {From: 128, To: 1 << 40}}, Commit: true, Err: 240,
		Told: api.Told{
			Shard:   16,
			Got:     []api.Got{{Version: api.Version{N: 4, State: 1, Text: "text"}}, {Err: 170}, {Version: api.Version{N: 1 << 62, State: 255, Text: "t"}, Err: 9999}},
			Numbers: []uint64{1, 1 << 14, 0}, Names: []string{"", "db/", "key"},
		},
		State: 2,
	})
}

// bare is a message of a kind with as little as it may have.
func bare(kind uint8) api.Msg {
	m := api.Msg{Kind: kind, Tx: api.Txid{Life: 1, N: 1}}
	if kind == 6 {
		m.State = 1
	}
	return m
}

// tell is a message as a text, cut off.
func tell(m api.Msg) string {
	return fmt.Sprintf("%.900s", fmt.Sprintf("%+v", m))
}

// holds says where May and Encode answer something else than the chapter, or Decode of the bytes.
func holds(t *testing.T, about string, m api.Msg) {
	t.Helper()
	was := norm(m)
	may, bytes := mayBe(m), bytesOf(m)
	if got := msg.May(m); got != may {
		t.Errorf("P20.1 %s: May(%s): %v, want %v", about, tell(m), got, may)
	}
	want, wantErr := bytes, api.OK
	if !may {
		want, wantErr = "", api.ErrArg
	}
	if got, err := msg.Encode(m); got != want || err != wantErr {
		t.Errorf("P20.1 %s: Encode(%s): %.300q, %v, want %.300q, %v", about, tell(m), got, err, want, wantErr)
	}
	if !reflect.DeepEqual(was, norm(m)) {
		t.Errorf("R5 %s: %s became %s", about, tell(was), tell(m))
	}
	reads(t, about, bytes)
}

// reads says where Decode answers something else than the chapter.
func reads(t *testing.T, about, s string) {
	t.Helper()
	want, is := read(s)
	wantErr := api.OK
	if !is {
		want, wantErr = api.Msg{}, api.ErrForm
	}
	got, err := msg.Decode(s)
	if err != wantErr || !equal(got, want) {
		t.Errorf("P20.2 %s: Decode(%.300q): %s, %v, want %s, %v", about, s, tell(got), err, tell(want), wantErr)
	}
	if !is {
		if !reflect.DeepEqual(got, api.Msg{}) {
			t.Errorf("R2 %s: Decode(%.300q) has something beside an error: %s", about, s, tell(got))
		}
		return
	}
	if again, err := msg.Encode(got); again != s || err != api.OK {
		t.Errorf("P20.3 %s: %.300q was read, and written as %.300q, %v", about, s, again, err)
	}
}

// P20.1

// TestExample is the chapter's.
func TestExample(t *testing.T) {
	m := api.Msg{Kind: api.MsgAck, Tx: api.Txid{Life: 1, N: 2}}
	if s, err := msg.Encode(m); s != "\x04\x01\x02" || err != api.OK || !msg.May(m) {
		t.Errorf("P20.1 Encode(%s): %q, %v, May %v", tell(m), s, err, msg.May(m))
	}
	if got, err := msg.Decode("\x04\x01\x02"); !reflect.DeepEqual(got, m) || err != api.OK {
		t.Errorf("P20.2 Decode: %s, %v, want %s", tell(got), err, tell(m))
	}
}

// TestKnownBytes: bytes of each kind with all that it has, that were worked out elsewhere.
func TestKnownBytes(t *testing.T) {
	rows := "02" + "066170702f6462" + "09" + "03" + "0701036f6e65" + "080300" + "090200" + "00" + "00" + "00"
	for kind, known := range map[uint8]string{
		1: "01" + "03ac02" + "038001" + "80808001" + "030102ffffffff0f" + "02" + "02066170702f646200" + "017880808080808080808001" + "02008004" +
			"03" + "01076170702f6b6579" + "01000003656e76" + "020162" + "0081010500" + "ff0100" + "00ffffffffffffffffff01070200ff" + "0301027f" +
			"0103617070" + "000101ffffffffffffffffff01" + rows + "c801" + "02007f8001808080808020",
		2: "02" + "03ac02" + rows + "01" + "f001" + "10" + "03" + "0401047465787400" + "000000aa01" + "808080808080808040ff0101748f4e" + "0301808001" + "00" + "03000364622f036b6579",
		3: "03" + "03ac02" + "038001" + "01",
		4: "04" + "03ac02",
		5: "05" + "03ac02",
		6: "06" + "03ac02" + "038001" + "02",
	} {
		b, err := hex.DecodeString(known)
		if err != nil {
			t.Fatal(err)
		}
		m := full(kind)
		if s, err := msg.Encode(m); s != string(b) || err != api.OK || !msg.May(m) {
			t.Errorf("P20.1 Encode(%s): %x, %v, want %s", tell(m), s, err, known)
		}
		if got, err := msg.Decode(string(b)); !equal(got, m) || err != api.OK {
			t.Errorf("P20.2 Decode(%s): %s, %v, want %s", known, tell(got), err, tell(m))
		}
	}
}

// TestKnownPlaces: at some places the bytes were worked out by hand.
func TestKnownPlaces(t *testing.T) {
	one := api.Txid{Life: 1, N: 1}
	for _, k := range []struct {
		m api.Msg
		s string
	}{
		{api.Msg{Kind: 1, Tx: one}, "\x01\x01\x01" + "\x00\x00" + "\x00" + "\x00" + "\x00\x00\x00\x00\x00\x00\x00\x00\x00\x00\x00" + "\x00" + "\x00" + "\x00"},
		{api.Msg{Kind: 2, Tx: one}, "\x02\x01\x01" + "\x00" + "\x00" + "\x00" + "\x00\x00\x00\x00"},
		{api.Msg{Kind: 3, Tx: one}, "\x03\x01\x01" + "\x00\x00" + "\x00"},
		{api.Msg{Kind: 3, Tx: one, Low: api.Txid{Life: 0, N: 127}, Commit: true}, "\x03\x01\x01" + "\x00\x7f" + "\x01"},
		{api.Msg{Kind: 4, Tx: api.Txid{Life: 128, N: 16384}}, "\x04\x80\x01\x80\x80\x01"},
		{api.Msg{Kind: 5, Tx: api.Txid{Life: 1 << 62, N: 1}}, "\x05\x80\x80\x80\x80\x80\x80\x80\x80\x40\x01"},
		{api.Msg{Kind: 6, Tx: one, State: 1}, "\x06\x01\x01" + "\x00\x00" + "\x01"},
		{api.Msg{Kind: 6, Tx: one, Low: api.Txid{Life: 2, N: 0}, State: 3}, "\x06\x01\x01" + "\x02\x00" + "\x03"},
		{api.Msg{Kind: 2, Tx: one, Err: api.ErrMap}, "\x02\x01\x01" + "\x00" + "\x00" + "\xf0\x01" + "\x00\x00\x00\x00"},
		{api.Msg{Kind: 2, Tx: one, Commit: true, Told: api.Told{Shard: 5, Numbers: []uint64{7}, Names: []string{"a", "b/"}}}, "\x02\x01\x01" + "\x00" + "\x01" + "\x00" + "\x05\x00\x01\x07\x02\x01a\x02b/"},
		{api.Msg{Kind: 1, Tx: one, Map: 3, Parts: []uint32{4}, Next: 5, Own: []api.Range{{From: 6, To: 8}}}, "\x01\x01\x01" + "\x00\x00" + "\x03" + "\x01\x04" + "\x00\x00\x00\x00\x00\x00\x00\x00\x00\x00\x00" + "\x00" + "\x05" + "\x01\x06\x08"},
		{api.Msg{Kind: 1, Tx: one, Ask: api.Ask{Shard: 9, Give: true, Range: api.Range{From: 10, To: 11}}}, "\x01\x01\x01" + "\x00\x00" + "\x00" + "\x00" + "\x09\x00\x00\x00\x00\x00\x00\x01\x00\x0a\x0b" + "\x00" + "\x00" + "\x00"},
	} {
		if s, err := msg.Encode(k.m); s != k.s || err != api.OK {
			t.Errorf("P20.1 Encode(%s): %q, %v, want %q", tell(k.m), s, err, k.s)
		}
		if got, err := msg.Decode(k.s); !equal(got, k.m) || err != api.OK {
			t.Errorf("P20.2 Decode(%q): %s, %v, want %s", k.s, tell(got), err, tell(k.m))
		}
	}
}

// TestKinds: there are six kinds.
func TestKinds(t *testing.T) {
	for kind := range 256 {
		for _, m := range []api.Msg{{Kind: uint8(kind)}, bare(uint8(kind)), full(uint8(kind))} {
			holds(t, "kind", m)
		}
		if got, want := msg.May(bare(uint8(kind))), kind >= 1 && kind <= 6; got != want {
			t.Errorf("P20.1 May of kind %d: %v", kind, got)
		}
	}
	holds(t, "nothing", api.Msg{})
}

// field is something that may be changed of a message, and the kinds that have it.
type field struct {
	name   string
	of     []uint8
	change func(m *api.Msg)
}

// fields are all that a message has, each of which is not zero behind it, and another one than in full.
func fields() []field {
	prepare, vote := []uint8{1}, []uint8{2}
	return []field{
		{"Tx.Life", kinds, func(m *api.Msg) { m.Tx.Life = 99 }},
		{"Tx.N", kinds, func(m *api.Msg) { m.Tx.N = 99 }},
		{"Low.Life", []uint8{1, 3, 6}, func(m *api.Msg) { m.Low.Life++ }},
		{"Low.N", []uint8{1, 3, 6}, func(m *api.Msg) { m.Low.N++ }},
		{"Map", prepare, func(m *api.Msg) { m.Map++ }},
		{"Parts", prepare, func(m *api.Msg) { m.Parts = []uint32{0} }},
		{"one more of Parts", prepare, func(m *api.Msg) { m.Parts = append(m.Parts, 5) }},
		{"Ask.Shard", prepare, func(m *api.Msg) { m.Ask.Shard++ }},
		{"Ask.Reads", prepare, func(m *api.Msg) { m.Ask.Reads = append(m.Ask.Reads, api.Read{}) }},
		{"Path of Ask.Reads", prepare, func(m *api.Msg) { m.Ask.Reads = []api.Read{{Path: "p"}} }},
		{"N of Ask.Reads", prepare, func(m *api.Msg) { m.Ask.Reads = []api.Read{{N: 1}} }},
		{"Ask.ReadAt", prepare, func(m *api.Msg) { m.Ask.ReadAt = append(m.Ask.ReadAt, 0) }},
		{"one of Ask.ReadAt", prepare, func(m *api.Msg) { m.Ask.ReadAt = []int{7} }},
		{"Ask.Edits", prepare, func(m *api.Msg) { m.Ask.Edits = append(m.Ask.Edits, api.Edit{}) }},
		{"Kind of Ask.Edits", prepare, func(m *api.Msg) { m.Ask.Edits = []api.Edit{{Kind: 3}} }},
		{"Path of Ask.Edits", prepare, func(m *api.Msg) { m.Ask.Edits = []api.Edit{{Path: "p"}} }},
		{"Any of Ask.Edits", prepare, func(m *api.Msg) { m.Ask.Edits = []api.Edit{{Any: true}} }},
		{"Want of Ask.Edits", prepare, func(m *api.Msg) { m.Ask.Edits = []api.Edit{{Want: 1}} }},
		{"N of Ask.Edits", prepare, func(m *api.Msg) { m.Ask.Edits = []api.Edit{{N: 1}} }},
		{"Text of Ask.Edits", prepare, func(m *api.Msg) { m.Ask.Edits = []api.Edit{{Text: "t"}} }},
		{"Ask.EditAt", prepare, func(m *api.Msg) { m.Ask.EditAt = append(m.Ask.EditAt, 0) }},
		{"one of Ask.EditAt", prepare, func(m *api.Msg) { m.Ask.EditAt = []int{7} }},
		{"Ask.List", prepare, func(m *api.Msg) { m.Ask.List = !m.Ask.List }},
		{"Ask.Prefix", prepare, func(m *api.Msg) { m.Ask.Prefix += "p" }},
		{"Ask.Give", prepare, func(m *api.Msg) { m.Ask.Give = !m.Ask.Give }},
		{"Ask.Take", prepare, func(m *api.Msg) { m.Ask.Take = !m.Ask.Take }},
		{"Ask.Range.From", prepare, func(m *api.Msg) { m.Ask.Range.From++ }},
		{"Ask.Range.To", prepare, func(m *api.Msg) { m.Ask.Range.To ^= 1 }},
		{"Rows", []uint8{1, 2}, func(m *api.Msg) { m.Rows = append(m.Rows, api.Row{}) }},
		{"Path of Rows", []uint8{1, 2}, func(m *api.Msg) { m.Rows = []api.Row{{Path: "p"}} }},
		{"Last of Rows", []uint8{1, 2}, func(m *api.Msg) { m.Rows = []api.Row{{Cell: api.Cell{Last: 1}}} }},
		{"L of Rows", []uint8{1, 2}, func(m *api.Msg) { m.Rows = []api.Row{{Cell: api.Cell{L: []api.Version{{}}}}} }},
		{"L's N of Rows", []uint8{1, 2}, func(m *api.Msg) { m.Rows = []api.Row{{Cell: api.Cell{L: []api.Version{{N: 1}}}}} }},
		{"L's State of Rows", []uint8{1, 2}, func(m *api.Msg) { m.Rows = []api.Row{{Cell: api.Cell{L: []api.Version{{State: 1}}}}} }},
		{"L's Text of Rows", []uint8{1, 2}, func(m *api.Msg) { m.Rows = []api.Row{{Cell: api.Cell{L: []api.Version{{Text: "t"}}}}} }},
		{"Next", prepare, func(m *api.Msg) { m.Next++ }},
		{"Own", prepare, func(m *api.Msg) { m.Own = append(m.Own, api.Range{}) }},
		{"From of Own", prepare, func(m *api.Msg) { m.Own = []api.Range{{From: 1}} }},
		{"To of Own", prepare, func(m *api.Msg) { m.Own = []api.Range{{To: 1}} }},
		{"Commit", []uint8{2, 3}, func(m *api.Msg) { m.Commit = !m.Commit }},
		{"Err", vote, func(m *api.Msg) { m.Err++ }},
		{"Told.Shard", vote, func(m *api.Msg) { m.Told.Shard++ }},
		{"Told.Got", vote, func(m *api.Msg) { m.Told.Got = append(m.Told.Got, api.Got{}) }},
		{"N of Told.Got", vote, func(m *api.Msg) { m.Told.Got = []api.Got{{Version: api.Version{N: 1}}} }},
		{"State of Told.Got", vote, func(m *api.Msg) { m.Told.Got = []api.Got{{Version: api.Version{State: 1}}} }},
		{"Text of Told.Got", vote, func(m *api.Msg) { m.Told.Got = []api.Got{{Version: api.Version{Text: "t"}}} }},
		{"Err of Told.Got", vote, func(m *api.Msg) { m.Told.Got = []api.Got{{Err: 1}} }},
		{"Told.Numbers", vote, func(m *api.Msg) { m.Told.Numbers = append(m.Told.Numbers, 0) }},
		{"one of Told.Numbers", vote, func(m *api.Msg) { m.Told.Numbers = []uint64{7} }},
		{"Told.Names", vote, func(m *api.Msg) { m.Told.Names = append(m.Told.Names, "") }},
		{"one of Told.Names", vote, func(m *api.Msg) { m.Told.Names = []string{"p"} }},
		{"State", []uint8{6}, func(m *api.Msg) { m.State++ }},
	}
}

// TestWhatAKindHasNot: each field, not zero, beside what a kind has: it may be just of the kinds that have it.
func TestWhatAKindHasNot(t *testing.T) {
	for _, kind := range kinds {
		for _, m := range []api.Msg{bare(kind), full(kind)} {
			for _, f := range fields() {
				x := norm(m)
				f.change(&x)
				holds(t, f.name, x)
				if got, want := msg.May(x), slices.Contains(f.of, kind); got != want {
					t.Errorf("P20.1 May of kind %d with %s: %v, want %v", kind, f.name, got, want)
				}
			}
		}
	}
}

// emptied is a message whose lists without elements are not nil.
func emptied(m api.Msg) api.Msg {
	m = norm(m)
	m.Parts, m.Own = empty(m.Parts), empty(m.Own)
	m.Ask.Reads, m.Ask.ReadAt = empty(m.Ask.Reads), empty(m.Ask.ReadAt)
	m.Ask.Edits, m.Ask.EditAt = empty(m.Ask.Edits), empty(m.Ask.EditAt)
	m.Told.Got, m.Told.Numbers, m.Told.Names = empty(m.Told.Got), empty(m.Told.Numbers), empty(m.Told.Names)
	m.Rows = empty(m.Rows)
	for i := range m.Rows {
		m.Rows[i].Cell.L = empty(m.Rows[i].Cell.L)
	}
	return m
}

func empty[T any](l []T) []T {
	if l == nil {
		return []T{}
	}
	return l
}

// TestEmptyLists: lists that are empty, and not nil, are as nil ones, also where a kind has none.
func TestEmptyLists(t *testing.T) {
	for _, kind := range kinds {
		for _, m := range []api.Msg{bare(kind), full(kind)} {
			e := emptied(m)
			holds(t, "empty lists", e)
			s, err := msg.Encode(m)
			if got, e2 := msg.Encode(e); got != s || e2 != err || !msg.May(e) {
				t.Errorf("P20.1 Encode of empty lists: %q, %v, want %q, %v", got, e2, s, err)
			}
			if !msg.Same(m, e) || !msg.Same(e, m) || !msg.Same(e, emptied(m)) || !msg.Same(msg.Mask(e), msg.Mask(m)) {
				t.Errorf("P20.1 Same: empty lists are not as nil ones: %s", tell(m))
			}
		}
	}
}

// TestTxBounds: Life and N are from 1 to MaxLife; those of Low up to MaxLife.
func TestTxBounds(t *testing.T) {
	edges := []uint64{0, 1, 2, 127, 128, 1<<62 - 1, 1 << 62, 1<<62 + 1, 1 << 63, greatest}
	for _, kind := range kinds {
		for _, a := range edges {
			for _, b := range edges {
				m := full(kind)
				m.Tx = api.Txid{Life: a, N: b}
				holds(t, "Tx", m)
				if got, want := msg.May(m), a >= 1 && a <= 1<<62 && b >= 1 && b <= 1<<62; got != want {
					t.Errorf("P20.1 May of kind %d with Tx %d %d: %v", kind, a, b, got)
				}
				if m = full(kind); kind == 1 || kind == 3 || kind == 6 {
					m.Low = api.Txid{Life: a, N: b}
					holds(t, "Low", m)
					if got, want := msg.May(m), a <= 1<<62 && b <= 1<<62; got != want {
						t.Errorf("P20.1 May of kind %d with Low %d %d: %v", kind, a, b, got)
					}
				}
			}
		}
	}
}

// edge is a change that may be at some numbers, and may not at others.
type edge struct {
	name   string
	kind   uint8
	may    []int
	not    []int
	change func(m *api.Msg, n int)
}

// edges are all lists, texts and numbers that have a bound.
func edges() []edge {
	lists, names, texts := []int{0, 1, 2, 127, 128, 511, 512}, []int{0, 1, 127, 128, 129}, []int{0, 1, 5, 6, 127, 128, 4095, 4096}
	overLists, overNames, overTexts := []int{513, 514, 1024}, []int{130, 131, 4096, 1 << 20}, []int{4097, 4098, 1 << 16, 1 << 20}
	errnos, overErrnos := []int{0, 1, 127, 128, 9998, 9999}, []int{-1, -2, math.MinInt, 10000, 1 << 32, math.MaxInt}
	places, overPlaces := []int{0, 1, 127, 128, 511, 512}, []int{-1, -2, math.MinInt, 513, 1 << 32, math.MaxInt}
	bytes := []int{0, 1, 3, 4, 127, 128, 255}
	l := []edge{
		{"Parts", 1, lists, overLists, func(m *api.Msg, n int) { m.Parts = times(n, uint32(1<<32-1)) }},
		{"Ask.Reads", 1, lists, overLists, func(m *api.Msg, n int) { m.Ask.Reads = times(n, api.Read{Path: "p", N: 1}) }},
		{"Ask.ReadAt", 1, lists, overLists, func(m *api.Msg, n int) { m.Ask.ReadAt = times(n, 512) }},
		{"Ask.Edits", 1, lists, overLists, func(m *api.Msg, n int) { m.Ask.Edits = times(n, api.Edit{Kind: 1, Path: "p", Text: "t"}) }},
		{"Ask.EditAt", 1, lists, overLists, func(m *api.Msg, n int) { m.Ask.EditAt = times(n, 3) }},
		{"Own", 1, lists, overLists, func(m *api.Msg, n int) { m.Own = times(n, api.Range{From: 1, To: greatest}) }},
		{"Told.Got", 2, lists, overLists, func(m *api.Msg, n int) { m.Told.Got = times(n, api.Got{Err: 3}) }},
		{"Told.Numbers", 2, lists, overLists, func(m *api.Msg, n int) { m.Told.Numbers = times(n, uint64(greatest)) }},
		{"Told.Names", 2, lists, overLists, func(m *api.Msg, n int) { m.Told.Names = times(n, "name") }},
		{"a path of Reads", 1, names, overNames, func(m *api.Msg, n int) { m.Ask.Reads[1].Path = ofN(n) }},
		{"a path of Edits", 1, names, overNames, func(m *api.Msg, n int) { m.Ask.Edits[1].Path = ofN(n) }},
		{"Prefix", 1, names, overNames, func(m *api.Msg, n int) { m.Ask.Prefix = ofN(n) }},
		{"one of Names", 2, names, overNames, func(m *api.Msg, n int) { m.Told.Names[1] = ofN(n) }},
		{"a text of Edits", 1, texts, overTexts, func(m *api.Msg, n int) { m.Ask.Edits[2].Text = ofN(n) }},
		{"a text of Got", 2, texts, overTexts, func(m *api.Msg, n int) { m.Told.Got[1].Version.Text = ofN(n) }},
		{"Err", 2, errnos, overErrnos, func(m *api.Msg, n int) { m.Err = api.Errno(n) }},
		{"an Err of Got", 2, errnos, overErrnos, func(m *api.Msg, n int) { m.Told.Got[0].Err = api.Errno(n) }},
		{"one of ReadAt", 1, places, overPlaces, func(m *api.Msg, n int) { m.Ask.ReadAt[1] = n }},
		{"one of EditAt", 1, places, overPlaces, func(m *api.Msg, n int) { m.Ask.EditAt[0] = n }},
		{"Kind of an edit", 1, bytes, nil, func(m *api.Msg, n int) { m.Ask.Edits[0].Kind = uint8(n) }},
		{"State of Got", 2, bytes, nil, func(m *api.Msg, n int) { m.Told.Got[2].Version.State = uint8(n) }},
		{"State", 6, []int{1, 2, 3}, []int{0, 4, 5, 127, 128, 255}, func(m *api.Msg, n int) { m.State = uint8(n) }},
	}
	for _, kind := range []uint8{1, 2} {
		l = append(l, []edge{
			{"Rows", kind, lists, overLists, func(m *api.Msg, n int) { m.Rows = times(n, rowsFull()[0]) }},
			{"L of a row", kind, lists, overLists, func(m *api.Msg, n int) { m.Rows[1].Cell.L = times(n, api.Version{N: 1, State: 1, Text: "t"}) }},
			{"a path of Rows", kind, names, overNames, func(m *api.Msg, n int) { m.Rows[0].Path = ofN(n) }},
			{"a text of Rows", kind, texts, overTexts, func(m *api.Msg, n int) { m.Rows[0].Cell.L[1].Text = ofN(n) }},
			{"State of a row's", kind, bytes, nil, func(m *api.Msg, n int) { m.Rows[0].Cell.L[0].State = uint8(n) }},
		}...)
	}
	return l
}

// TestBounds: each bound, and one beyond it.
func TestBounds(t *testing.T) {
	for _, e := range edges() {
		for i, n := range append(slices.Clone(e.may), e.not...) {
			m := full(e.kind)
			e.change(&m, n)
			holds(t, fmt.Sprint(e.name, " ", n), m)
			if got := msg.May(m); got != (i < len(e.may)) {
				t.Errorf("P20.1 May of %s %d: %v", e.name, n, got)
			}
		}
	}
}

// TestNumbersHaveNone: numbers without a bound may be whatever they are.
func TestNumbersHaveNone(t *testing.T) {
	for _, n := range []uint64{0, 1, 127, 128, 1 << 32, 1<<62 + 1, 1 << 63, greatest} {
		m := full(1)
		m.Map, m.Next, m.Own[0].From, m.Own[1].To = n, n, n, n
		m.Ask.Reads[0].N, m.Ask.Edits[0].Want, m.Ask.Edits[1].N, m.Ask.Range.From, m.Ask.Range.To = n, n, n, n, n
		m.Rows[0].Cell.Last, m.Rows[0].Cell.L[0].N = n, n
		m.Parts[0], m.Ask.Shard = uint32(n), uint32(n)
		v := full(2)
		v.Told.Numbers[0], v.Told.Got[0].Version.N, v.Told.Shard = n, n, uint32(n)
		for _, m := range []api.Msg{m, v} {
			holds(t, "any number", m)
			if !msg.May(m) {
				t.Errorf("P20.1 May(%s): false", tell(m))
			}
		}
	}
}

// padded is a message of just so many bytes, that may be if these are not too many.
func padded(t *testing.T, kind uint8, n int) api.Msg {
	t.Helper()
	m := full(kind)
	for range 16 {
		wide := min(n-len(bytesOf(m))-100, 4096)
		if wide <= 0 {
			break
		}
		m.Rows[1].Cell.L = append(m.Rows[1].Cell.L, api.Version{Text: ofN(wide)})
	}
	for len(bytesOf(m)) < n {
		m.Rows[0].Path += "p"
	}
	if len(bytesOf(m)) != n || !inBounds(m) {
		t.Fatalf("no message of %d bytes: %d", n, len(bytesOf(m)))
	}
	return m
}

// TestMaxMsg: a message has at most MaxMsg bytes.
func TestMaxMsg(t *testing.T) {
	for _, kind := range []uint8{1, 2} {
		for _, n := range []int{65535, 65536, 65537, 65538, 65600} {
			m := padded(t, kind, n)
			holds(t, fmt.Sprint(n, " bytes"), m)
			if got := msg.May(m); got != (n <= 65536) {
				t.Errorf("P20.1 May of a message of %d bytes: %v", n, got)
			}
			s := bytesOf(m)
			if got, err := msg.Decode(s); (err == api.OK) != (n <= 65536) || (err == api.OK) != equal(got, m) {
				t.Errorf("P20.2 Decode of %d bytes: %v", n, err)
			}
		}
	}
}

// TestFarTooMuch: what is far beyond all bounds is refused, and soon.
func TestFarTooMuch(t *testing.T) {
	long := ofN(1 << 20)
	versions := times(1<<12, api.Version{Text: long})
	m := full(2)
	m.Rows = times(1<<12, api.Row{Path: long, Cell: api.Cell{L: versions}})
	w := full(2)
	w.Rows = times(512, api.Row{Path: "p", Cell: api.Cell{L: times(512, api.Version{Text: ofN(4096)})}})
	for _, m := range []api.Msg{m, w} {
		if s, err := msg.Encode(m); s != "" || err != api.ErrArg || msg.May(m) {
			t.Errorf("P20.1 Encode of far too much: %d bytes, %v", len(s), err)
		}
		if !msg.Same(m, m) {
			t.Error("P20.1 Same of far too much: false")
		}
	}
}

// P20.2

// TestDecodeCut: nothing, each beginning of a message's bytes, and bytes behind these, are none.
func TestDecodeCut(t *testing.T) {
	for _, kind := range kinds {
		for _, m := range []api.Msg{bare(kind), full(kind)} {
			s, err := msg.Encode(m)
			if err != api.OK {
				t.Fatalf("P20.1 Encode(%s): %v", tell(m), err)
			}
			for i := range len(s) {
				refusesBytes(t, "cut off", s[:i])
			}
			for _, more := range []string{"\x00", "\x01", "\xff", s, "\x80\x00"} {
				refusesBytes(t, "behind it", s+more)
			}
		}
	}
	refusesBytes(t, "nothing", "")
}

// refusesBytes says where Decode does not answer that bytes are none.
func refusesBytes(t *testing.T, about, s string) {
	t.Helper()
	if got, err := msg.Decode(s); err != api.ErrForm || !reflect.DeepEqual(got, api.Msg{}) {
		t.Errorf("P20.2 %s: Decode(%.300q): %s, %v", about, s, tell(got), err)
	}
}

// TestDecodeEachByte: each byte of some messages turned to each other one, left out, or doubled.
func TestDecodeEachByte(t *testing.T) {
	for _, kind := range kinds {
		for _, m := range []api.Msg{bare(kind), full(kind)} {
			s := bytesOf(m)
			for i := range len(s) {
				for b := range 256 {
					reads(t, "a byte turned", s[:i]+string([]byte{byte(b)})+s[i+1:])
				}
				reads(t, "a byte left out", s[:i]+s[i+1:])
				reads(t, "a byte doubled", s[:i+1]+s[i:])
				reads(t, "a longer number", s[:i]+string([]byte{s[i] | 128, 0})+s[i+1:])
				reads(t, "a longer number", s[:i]+string([]byte{s[i] | 128, 128, 0})+s[i+1:])
			}
		}
	}
}

// TestDecodeKinds: a kind that is none, and one in more bytes than it needs.
func TestDecodeKinds(t *testing.T) {
	for _, kind := range []uint64{0, 7, 8, 127, 128, 255, 256, 257, 260, 512 + 4, 1<<32 + 4, greatest} {
		var p press
		p.number(kind, 1, 2)
		refusesBytes(t, "a kind", string(p.b))
		refusesBytes(t, "a kind", string(p.b[:len(p.b)-2]))
	}
	refusesBytes(t, "a kind in two bytes", "\x84\x00\x01\x02")
	refusesBytes(t, "a Life in two bytes", "\x04\x81\x00\x02")
	refusesBytes(t, "an N in two bytes", "\x04\x01\x82\x00")
	refusesBytes(t, "an N in eleven bytes", "\x04\x01\x82\x80\x80\x80\x80\x80\x80\x80\x80\x80\x01")
	refusesBytes(t, "an N above all numbers", "\x04\x01\xff\xff\xff\xff\xff\xff\xff\xff\xff\x02")
	for b := 2; b < 256; b++ {
		refusesBytes(t, "a truth", "\x03\x01\x02\x00\x00"+string([]byte{byte(b)}))
	}
	for _, state := range []string{"\x00", "\x04", "\x7f", "\x81\x02", "\x82\x02", "\x83\x02"} {
		refusesBytes(t, "a state", "\x06\x01\x02\x00\x00"+state)
	}
}

// numberAt is the bytes of a message with another number in the place of the last one that is this marked one.
func numberAt(t *testing.T, m api.Msg, mark, n uint64) string {
	t.Helper()
	var a, b press
	a.number(mark)
	b.number(n)
	s := bytesOf(m)
	at := strings.LastIndex(s, string(a.b))
	if at < 0 {
		t.Fatalf("no number %d in the bytes of %s", mark, tell(m))
	}
	return s[:at] + string(b.b) + s[at+len(a.b):]
}

// TestDecodeBounds: each bound overstepped by what bytes say, also where a message could not.
func TestDecodeBounds(t *testing.T) {
	for _, c := range []struct {
		name   string
		kind   uint8
		mark   uint64 // a number that stands nowhere else
		most   uint64
		change func(m *api.Msg)
	}{
		{"Kind of an edit", 1, 213, 255, func(m *api.Msg) { m.Ask.Edits[1].Kind = 213 }},
		{"State of a row's", 1, 213, 255, func(m *api.Msg) { m.Rows[0].Cell.L[1].State = 213 }},
		{"State of a row's", 2, 213, 255, func(m *api.Msg) { m.Rows[0].Cell.L[1].State = 213 }},
		{"State of Got", 2, 213, 255, func(m *api.Msg) { m.Told.Got[1].Version.State = 213 }},
		{"Parts", 1, 70000, 1<<32 - 1, func(m *api.Msg) { m.Parts[1] = 70000 }},
		{"the ask's Shard", 1, 70000, 1<<32 - 1, func(m *api.Msg) { m.Ask.Shard = 70000 }},
		{"the told one's Shard", 2, 70000, 1<<32 - 1, func(m *api.Msg) { m.Told.Shard = 70000 }},
		{"one of ReadAt", 1, 333, 512, func(m *api.Msg) { m.Ask.ReadAt[0] = 333 }},
		{"one of EditAt", 1, 333, 512, func(m *api.Msg) { m.Ask.EditAt[0] = 333 }},
		{"Err", 2, 3333, 9999, func(m *api.Msg) { m.Err = 3333 }},
		{"Err of Got", 2, 3333, 9999, func(m *api.Msg) { m.Told.Got[0].Err = 3333 }},
		{"Life of Tx", 5, 70000, 1 << 62, func(m *api.Msg) { m.Tx.Life = 70000 }},
		{"N of Tx", 5, 70000, 1 << 62, func(m *api.Msg) { m.Tx.N = 70000 }},
		{"Life of Low", 6, 70000, 1 << 62, func(m *api.Msg) { m.Low.Life = 70000 }},
		{"N of Low", 6, 70000, 1 << 62, func(m *api.Msg) { m.Low.N = 70000 }},
	} {
		m := full(c.kind)
		c.change(&m)
		for _, n := range []uint64{0, 1, c.most - 1, c.most, c.most + 1, c.most + 2, 2 * c.most, c.most + 256, 1<<32 + 1, 1<<62 + 1, 1 << 63, greatest} {
			s := numberAt(t, m, c.mark, n)
			_, err := msg.Decode(s)
			may := n <= c.most && (n > 0 || !strings.HasSuffix(c.name, "Tx"))
			if want := map[bool]api.Errno{true: api.OK, false: api.ErrForm}[may]; err != want {
				t.Errorf("P20.2 %s %d: Decode: %v, want %v", c.name, n, err, want)
			}
			if n <= c.most {
				reads(t, c.name, s)
			}
		}
	}
}

// TestDecodeCounts: counts and lengths above what is there.
func TestDecodeCounts(t *testing.T) {
	for _, kind := range []uint8{1, 2} {
		s := bytesOf(full(kind))
		for i := range len(s) {
			for _, more := range []string{"\xff\x03", "\x80\x04", "\x81\x04", "\x80\x20", "\x81\x20", "\xff\xff\xff\xff\x0f", "\xff\xff\xff\xff\xff\xff\xff\xff\xff\x01"} {
				reads(t, "a number put in", s[:i]+more+s[i+1:])
				reads(t, "a number put in", s[:i]+more)
			}
		}
	}
	for _, head := range []string{"\x01\x01\x01\x00\x00\x00", "\x02\x01\x01"} {
		for _, n := range []uint64{1, 511, 512, 513, 1 << 31, 1 << 62, greatest} {
			var p press
			p.number(n)
			refusesBytes(t, "a count", head+string(p.b))
			refusesBytes(t, "a count", head+string(p.b)+strings.Repeat("\xff", 60000))
		}
	}
}

// TestRandomBytes: bytes that have no order are none, or are written as themselves.
func TestRandomBytes(t *testing.T) {
	r := rand.New(rand.NewSource(20))
	for range 60000 {
		b := make([]byte, r.Intn(40))
		for i := range b {
			if b[i] = byte(r.Intn(5)); r.Intn(10) == 0 {
				b[i] = byte(r.Intn(256))
			}
		}
		reads(t, "by chance", string(b))
	}
}

// P20.3

// chance draws messages.
type chance struct{ *rand.Rand }

func (c chance) number() uint64 {
	return []uint64{0, 1, 2, 127, 128, uint64(c.Intn(300)), 1 << 62, greatest, c.Uint64()}[c.Intn(9)]
}

func (c chance) life() uint64 {
	return []uint64{1, 2, 127, 128, uint64(1 + c.Intn(300)), 1 << 62, 1<<62 - 1}[c.Intn(7)]
}

func (c chance) text(most int) string {
	b := make([]byte, []int{0, 1, 4, 5, 6, 7, c.Intn(60), most}[c.Intn(80)%8*min(1, c.Intn(30))])
	c.Read(b)
	return string(b)
}

func (c chance) txid() api.Txid   { return api.Txid{Life: c.life(), N: c.life()} }
func (c chance) small() uint8     { return uint8(c.Intn(256)) }
func (c chance) shard() uint32    { return []uint32{0, 1, 2, 16, 1<<32 - 1}[c.Intn(5)] }
func (c chance) place() int       { return []int{0, 1, 127, 128, 512}[c.Intn(5)] }
func (c chance) truth() bool      { return c.Intn(2) == 0 }
func (c chance) errno() api.Errno { return []api.Errno{0, 1, 170, 240, 9999}[c.Intn(5)] }
func (c chance) name() string     { return c.text(129) }
func (c chance) read() api.Read   { return api.Read{Path: c.name(), N: c.number()} }
func (c chance) span() api.Range  { return api.Range{From: c.number(), To: c.number()} }
func (c chance) got() api.Got     { return api.Got{Version: c.version(), Err: c.errno()} }

func (c chance) version() api.Version {
	return api.Version{N: c.number(), State: c.small(), Text: c.text(4096)}
}

func (c chance) edit() api.Edit {
	return api.Edit{Kind: c.small(), Path: c.name(), Any: c.truth(), Want: c.number(), N: c.number(), Text: c.text(4096)}
}

func (c chance) row() api.Row {
	return api.Row{Path: c.name(), Cell: api.Cell{Last: c.number(), L: some(c, c.version)}}
}

// some is a list of a few.
func some[T any](c chance, one func() T) []T {
	var l []T
	for range c.Intn(4) {
		l = append(l, one())
	}
	return l
}

// all is a message that has everything, whatever its kind has.
func (c chance) all() api.Msg {
	return api.Msg{
		Kind: uint8(1 + c.Intn(6)), Tx: c.txid(), Low: c.txid(), Map: c.number(), Parts: some(c, c.shard),
		Ask: api.Ask{
			Shard: c.shard(), Reads: some(c, c.read), ReadAt: some(c, c.place), Edits: some(c, c.edit), EditAt: some(c, c.place),
			List: c.truth(), Prefix: c.name(), Give: c.truth(), Take: c.truth(), Range: c.span(),
		},
		Rows: some(c, c.row), Next: c.number(), Own: some(c, c.span), Commit: c.truth(), Err: c.errno(),
		Told:  api.Told{Shard: c.shard(), Got: some(c, c.got), Numbers: some(c, c.number), Names: some(c, c.name)},
		State: uint8(1 + c.Intn(3)),
	}
}

// TestRandomMessages: what was written is read as itself, and what has something that its kind has not may not be.
func TestRandomMessages(t *testing.T) {
	c := chance{rand.New(rand.NewSource(2020))}
	for range 4000 {
		m := c.all()
		holds(t, "all", m)
		m = kept(m)
		holds(t, "kept", m)
		s, err := msg.Encode(m)
		if err != api.OK {
			t.Fatalf("P20.1 Encode(%s): %v", tell(m), err)
		}
		if got, err := msg.Decode(s); err != api.OK || !msg.Same(got, m) || !equal(got, m) {
			t.Fatalf("P20.3 %s is read as %s, %v", tell(m), tell(got), err)
		}
		for range 5 {
			at := c.Intn(len(s))
			reads(t, "a byte by chance", s[:at]+string([]byte{c.small()})+s[at+1:])
		}
		masks(t, m)
		masks(t, c.all())
	}
}

// Same

// TestSame: messages that differ in one field alone are not the same, whatever their kind.
func TestSame(t *testing.T) {
	for _, kind := range []uint8{0, 1, 2, 3, 4, 5, 6, 200} {
		for _, m := range []api.Msg{{Kind: kind}, bare(kind), full(kind), everything(kind)} {
			if !msg.Same(m, norm(m)) {
				t.Errorf("P20.1 Same(%s, itself): false", tell(m))
			}
			other := norm(m)
			other.Kind++
			if msg.Same(m, other) || msg.Same(other, m) {
				t.Error("P20.1 Same of two kinds: true")
			}
			for i, f := range fields() {
				a := norm(m)
				f.change(&a)
				if msg.Same(m, a) || msg.Same(a, m) || !msg.Same(a, norm(a)) {
					t.Errorf("P20.1 Same of kind %d, and another %s: %v", kind, f.name, msg.Same(m, a))
				}
				for _, g := range fields()[i+1:] {
					b := norm(m)
					g.change(&b)
					if got := msg.Same(a, b); got != equal(a, b) {
						t.Errorf("P20.1 Same of another %s and another %s: %v", f.name, g.name, got)
					}
				}
			}
		}
	}
}

// everything is a message of a kind that has all that any kind has.
func everything(kind uint8) api.Msg {
	m, vote, told := full(1), full(2), full(6)
	m.Kind, m.Commit, m.Err, m.Told, m.State = kind, vote.Commit, vote.Err, vote.Told, told.State
	return m
}

// Mask

// hidden is a text masked, by the chapter.
func hidden(s string) string {
	b := []byte(s)
	for i := range b {
		if i >= 5 {
			b[i] = 0
		}
	}
	return string(b)
}

// masks says where Mask answers something else than the chapter, or changes what it was handed.
func masks(t *testing.T, m api.Msg) {
	t.Helper()
	want := norm(m)
	for i := range want.Ask.Edits {
		want.Ask.Edits[i].Text = hidden(want.Ask.Edits[i].Text)
	}
	for i := range want.Rows {
		for j := range want.Rows[i].Cell.L {
			want.Rows[i].Cell.L[j].Text = hidden(want.Rows[i].Cell.L[j].Text)
		}
	}
	for i := range want.Told.Got {
		want.Told.Got[i].Version.Text = hidden(want.Told.Got[i].Version.Text)
	}
	was := norm(m)
	got := msg.Mask(m)
	if !equal(got, want) {
		t.Errorf("P20.1 Mask(%s): %s, want %s", tell(m), tell(got), tell(want))
	}
	if !equal(m, was) {
		t.Errorf("R5 Mask changed %s: %s", tell(was), tell(m))
	}
	if twice := msg.Mask(got); !equal(twice, want) {
		t.Errorf("P20.3 Mask twice of %s: %s", tell(m), tell(twice))
	}
	if mayBe(m) && (!msg.May(got) || len(bytesOf(got)) != len(bytesOf(m))) {
		t.Errorf("P20.3 Mask of %s: May %v, %d bytes", tell(m), msg.May(got), len(bytesOf(got)))
	}
}

// TestMask: texts of some lengths, wherever they stand, also of a message that may not be.
func TestMask(t *testing.T) {
	for _, text := range []string{"", "a", "abcd", "abcde", "abcdef", "abcdefgh", "\x00\x01\x02\x03\x04\x00\x00", "\xff\xff\xff\xff\xff\xff", ofN(4096), ofN(10000)} {
		for _, kind := range []uint8{0, 1, 2, 3, 6, 99} {
			m := everything(kind)
			masks(t, m)
			for i := range m.Ask.Edits {
				m.Ask.Edits[i].Text = text
			}
			m.Rows[0].Cell.L[0].Text, m.Rows[0].Cell.L[1].Text, m.Rows[0].Cell.L[2].Text = text, text, text
			m.Told.Got[0].Version.Text, m.Told.Got[1].Version.Text, m.Told.Got[2].Version.Text = text, text, text
			masks(t, m)
			masks(t, kept(m))
		}
	}
	m := api.Msg{Kind: 2, Told: api.Told{Got: []api.Got{{Version: api.Version{Text: "abcdefg"}}}, Names: []string{"a long name"}}}
	got := msg.Mask(m)
	if got.Told.Got[0].Version.Text != "abcde\x00\x00" || got.Told.Names[0] != "a long name" {
		t.Errorf("P20.1 Mask: %+v", got.Told)
	}
	masks(t, api.Msg{})
	masks(t, emptied(bare(1)))
}

// R5

// scramble changes all lists of a message in place, and behind their ends.
func scramble(m api.Msg) {
	mix(m.Parts, 77)
	mix(m.Ask.Reads, api.Read{Path: "mixed"})
	mix(m.Ask.ReadAt, 77)
	mix(m.Ask.Edits, api.Edit{Path: "mixed"})
	mix(m.Ask.EditAt, 77)
	for _, r := range m.Rows {
		mix(r.Cell.L, api.Version{Text: "mixed"})
	}
	mix(m.Rows, api.Row{Path: "mixed"})
	mix(m.Own, api.Range{From: 77})
	mix(m.Told.Got, api.Got{Err: 77})
	mix(m.Told.Numbers, 77)
	mix(m.Told.Names, "mixed")
}

func mix[T any](l []T, with T) {
	l = l[:cap(l)]
	for i := range l {
		l[i] = with
	}
}

// TestMemory: answers are memory of their own, each list of it.
func TestMemory(t *testing.T) {
	for _, kind := range kinds {
		m := everything(kind)
		masked := msg.Mask(m)
		was := norm(masked)
		scramble(m)
		if !equal(masked, was) {
			t.Errorf("R5 Mask shares memory with what it was handed: %s", tell(masked))
		}
		m = everything(kind)
		masked = msg.Mask(m)
		scramble(masked)
		if !equal(m, everything(kind)) {
			t.Errorf("R5 what Mask was handed shares memory with its answer: %s", tell(m))
		}
		s := bytesOf(full(kind))
		one, err := msg.Decode(s)
		two, _ := msg.Decode(s)
		scramble(one)
		if err != api.OK || !equal(two, full(kind)) {
			t.Errorf("R5 Decode answers the same memory twice: %s, %v", tell(two), err)
		}
	}
}

// TestListsOfTheirOwn: what is laid behind one list of an answer changes no other one.
func TestListsOfTheirOwn(t *testing.T) {
	m := full(2)
	m.Rows = append(m.Rows, rowsFull()...)
	got, _ := msg.Decode(bytesOf(m))
	for _, x := range []api.Msg{got, msg.Mask(m)} {
		was := norm(x)
		for i := range was.Rows {
			was.Rows[i].Cell.L = list(was.Rows[i].Cell.L)
		}
		for i := range x.Rows {
			_ = append(x.Rows[i].Cell.L, api.Version{Text: "behind"})
		}
		_ = append(x.Rows, api.Row{Path: "behind"})
		_ = append(x.Told.Got, api.Got{Err: 1})
		_ = append(x.Told.Names, "behind")
		_ = append(x.Told.Numbers, 77)
		if !equal(x, was) {
			t.Errorf("R5 lists share what is behind them: %s", tell(x))
		}
	}
}

// TestTextsOfTheirOwn: what was read keeps nothing of the bytes it was read of.
func TestTextsOfTheirOwn(t *testing.T) {
	for _, kind := range []uint8{1, 2} {
		s := bytesOf(full(kind))
		from := uintptr(unsafe.Pointer(unsafe.StringData(s)))
		m, _ := msg.Decode(s)
		texts := append([]string{m.Ask.Prefix}, m.Told.Names...)
		for _, r := range m.Ask.Reads {
			texts = append(texts, r.Path)
		}
		for _, e := range m.Ask.Edits {
			texts = append(texts, e.Path, e.Text)
		}
		for _, g := range m.Told.Got {
			texts = append(texts, g.Version.Text)
		}
		for _, r := range m.Rows {
			texts = append(texts, r.Path)
			for _, v := range r.Cell.L {
				texts = append(texts, v.Text)
			}
		}
		for _, text := range texts {
			if at := uintptr(unsafe.Pointer(unsafe.StringData(text))); text != "" && at >= from && at < from+uintptr(len(s)) {
				t.Errorf("R5 Decode keeps the bytes for %q", text)
			}
		}
	}
}
