package store_test

import (
	"fmt"
	"maps"
	"slices"
	"strings"
	"testing"
	"unsafe"

	"scrinium/api"
	"scrinium/disk"
	"scrinium/seal"
	"scrinium/store"
)

// P19.3

// asked is what Prepare is handed.
type asked struct {
	id          api.Txid
	b           api.Batch
	note, nonce string
}

// fault is something for which a batch is refused: by which error, that the chapter names as the n-th one; of several that alter one thing there is one at a time.
type fault struct {
	n     int
	about string
	want  api.Errno
	do    func(a *asked)
	thing string
}

// faults are all for which an open store of busy refuses a batch.
func faults() []fault {
	edit := func(e api.Edit) func(a *asked) {
		return func(a *asked) { a.b.Edits = append(a.b.Edits, e) }
	}
	rows := func(l ...api.Row) func(a *asked) {
		return func(a *asked) { a.b.Rows = append(a.b.Rows, l...) }
	}
	id := func(life, n uint64) func(a *asked) { return func(a *asked) { a.id = txid(life, n) } }
	wrong := row("w", "x")
	wrong.Cell.Last = 2
	return []fault{
		{1, "of one that is prepared", api.ErrHave, id(5, 3), "id"},
		{1, "of one that is committed", api.ErrHave, id(5, 1), "id"},
		{1, "of one that is prepared, below the low one", api.ErrHave, id(4, 5), "id"},
		{2, "of one that was refused", api.ErrRefused, id(5, 2), "id"},
		{2, "of one that was aborted", api.ErrRefused, id(5, 4), "id"},
		{2, "of one that was committed, below the low one", api.ErrRefused, id(4, 4), "id"},
		{2, "below the low one, by its number", api.ErrRefused, id(4, 6), "id"},
		{2, "below the low one, by its life", api.ErrRefused, id(3, 1<<64-1), "id"},
		{3, "a draw of 11 bytes", api.ErrArg, func(a *asked) { a.nonce = a.nonce[:11] }, "draw"},
		{3, "a draw of 13 bytes", api.ErrArg, func(a *asked) { a.nonce += "x" }, "draw"},
		{3, "an edit of kind 0", api.ErrArg, edit(api.Edit{Path: "b"}), ""},
		{3, "an edit of kind 4", api.ErrArg, edit(api.Edit{Kind: 4, Path: "b"}), ""},
		{3, "an edit of no path", api.ErrArg, edit(put("", "x")), ""},
		{3, "an edit of what is no path", api.ErrArg, edit(put("a//b", "x")), ""},
		{3, "too many edits and rows", api.ErrArg, func(a *asked) {
			for i := len(a.b.Edits) + len(a.b.Rows); i <= api.MaxBatch; i++ {
				a.b.Edits = append(a.b.Edits, put("z", ""))
			}
		}, ""},
		{3, "a row of what is no path", api.ErrArg, rows(row("A", "x")), ""},
		{3, "a row twice", api.ErrArg, rows(row("w", "x"), row("w", "y")), ""},
		{3, "a row whose cell may not be", api.ErrArg, rows(wrong), ""},
		{3, "a row without a version", api.ErrArg, rows(api.Row{Path: "w"}), ""},
		{3, "a drop whose From is above its To", api.ErrArg, func(a *asked) { a.b.Drop, a.b.Range = true, api.Range{From: 2, To: 1} }, ""},
		{3, "a range that may not be", api.ErrArg, func(a *asked) { a.b.Map, a.b.Own = 1, []api.Range{all, {From: 2, To: 1}} }, ""},
		{3, "ranges of no map", api.ErrArg, func(a *asked) { a.b.Own = append(a.b.Own, all); a.b.Map = 0 }, ""},
		{4, "an edit's text", api.ErrLong, edit(put("y", strings.Repeat("x", api.MaxPlain+1))), ""},
		{4, "a row's text", api.ErrLong, rows(row("y", "", strings.Repeat("x", api.MaxPlain+1))), "y"},
		{4, "a row's text of MaxValue bytes", api.ErrLong, rows(row("y/y", strings.Repeat("x", api.MaxValue))), "y/y"},
		{4, "a note", api.ErrLong, func(a *asked) { a.note = strings.Repeat("x", api.MaxNote+1) }, ""},
		{5, "a put of another version", api.ErrStale, edit(api.Edit{Kind: api.EditPut, Path: "p", Want: 1}), ""},
		{5, "a put where one is, that wants none", api.ErrStale, edit(api.Edit{Kind: api.EditPut, Path: "p"}), ""},
		{5, "a delete of what is not there", api.ErrNone, edit(api.Edit{Kind: api.EditDelete, Path: "q", Any: true}), ""},
		{5, "a destroy of what is destroyed", api.ErrGone, edit(api.Edit{Kind: api.EditDestroy, Path: "p", N: 1}), ""},
		{6, "a row that is there", api.ErrHave, rows(row("p", "x")), "p"},
		{7, "a quota", api.ErrQuota, edit(put("big", strings.Repeat("x", 2600))), ""},
		{8, "no room", api.ErrFull, func(a *asked) {
			if len(a.note) <= api.MaxNote {
				a.note = strings.Repeat("n", api.MaxNote)
			}
		}, ""},
	}
}

// busy is a store of which batches are refused for all of faults, and its disk.
func busy(t *testing.T) (*store.Store, *disk.Disk, api.StoreConf) {
	t.Helper()
	c := api.StoreConf{Wal: api.WalConf{Files: 3, Size: 2000, Check: 2000}, Quota: api.Quota{Paths: 1000, Bytes: 2700}}
	s, d := begun(t, c)
	commits(t, s, txid(4, 4), edits())
	prepares(t, s, txid(4, 5), edits())
	is(t, "P19.4 Low", s.Low(txid(4, 7)), api.OK)
	commits(t, s, txid(5, 1), edits(put("p", ""), put("p", ""), api.Edit{Kind: api.EditDestroy, Path: "p", N: 1}))
	is(t, "P19.4 Refuse", s.Refuse(txid(5, 2)), api.OK)
	prepares(t, s, txid(5, 3), edits(put("h", "")), 1)
	prepares(t, s, txid(5, 4), edits())
	is(t, "P19.4 Decide", s.Decide(txid(5, 4), false), api.OK)
	return s, d, c
}

// TestPrepareErrors: each error, alone, and with each other one: that which the chapter names first; sealed, and not begun, that alone.
func TestPrepareErrors(t *testing.T) {
	s, d, c := busy(t)
	fresh := func() asked {
		return asked{id: txid(6, 1), b: edits(put("good", "x"), put("good", "y")), nonce: draw(1)}
	}
	all := faults()
	var refused []asked
	for _, two := range all {
		a := fresh()
		two.do(&a)
		refused = append(refused, a)
		unprepared(t, two.about, s, d, a.id, a.b, a.note, a.nonce, map[int]int{5: 2}[two.n], two.want)
		for _, one := range all {
			if one.thing != "" && one.thing == two.thing {
				continue
			}
			a := fresh()
			two.do(&a)
			place := len(a.b.Edits)
			one.do(&a)
			first := one
			if two.n <= one.n {
				place, first = 2, two
			}
			if first.n != 5 {
				place = 0
			}
			about := fmt.Sprintf("%s (%s, and %s)", first.about, two.about, one.about)
			unprepared(t, about, s, d, a.id, a.b, a.note, a.nonce, place, first.want)
		}
	}
	a := fresh()
	is(t, "P19.2 Seal", s.Seal(), api.OK)
	none, noneDisk := made(t, c)
	for _, a := range append(refused, a) {
		unprepared(t, "sealed", s, d, a.id, a.b, a.note, a.nonce, 0, api.ErrSealed)
		unprepared(t, "not begun", none, noneDisk, a.id, a.b, a.note, a.nonce, 0, api.ErrState)
	}
	opens(t, s)
	if l, at, err := s.Prepare(a.id, a.b, a.note, a.nonce); !slices.Equal(l, []uint64{1, 2}) || at != 0 || err != api.OK {
		t.Errorf("P19.3 Prepare without a fault: %v, %d, %v", l, at, err)
	}
}

// TestPrepareBounds: of what may be up to a bound just that.
func TestPrepareBounds(t *testing.T) {
	c := large
	c.Wal.Size = 1 << 18
	s, d := begun(t, c)
	longest := strings.Repeat("x", api.MaxPlain)
	note := strings.Repeat("n", api.MaxNote)
	many := make([]api.Edit, api.MaxBatch)
	for i := range many {
		many[i] = put(fmt.Sprint("many", i), "")
	}
	manyRows := make([]api.Row, api.MaxBatch)
	for i := range manyRows {
		manyRows[i] = row(fmt.Sprint("rows", i), "")
	}
	n := uint64(0)
	for _, x := range []struct {
		about string
		b     api.Batch
		want  int
	}{
		{"nothing", api.Batch{}, 0},
		{"a text of MaxPlain bytes", edits(put("e", longest)), 1},
		{"a row's text of MaxPlain bytes", rows(row("r", "", longest)), 0},
		{"MaxBatch edits", edits(many...), api.MaxBatch},
		{"MaxBatch rows", rows(manyRows...), 0},
		{"MaxBatch of both", api.Batch{Edits: many[:100], Rows: manyRows[100:]}, 100},
		{"a range that is turned, without a drop", api.Batch{Range: api.Range{From: 2, To: 1}}, 0},
		{"a drop of one place", api.Batch{Drop: true, Range: api.Range{From: 2, To: 2}}, 0},
		{"a map without ranges", api.Batch{Map: 1}, 0},
		{"ranges of one place", api.Batch{Map: 1<<64 - 1, Own: []api.Range{{}, {From: 5, To: 5}}}, 0},
	} {
		n++
		l, at, err := s.Prepare(txid(1, n), x.b, note, draw(1))
		if len(l) != x.want || at != 0 || err != api.OK {
			t.Errorf("P19.3 Prepare of %s: %v, %d, %v", x.about, l, at, err)
			continue
		}
		h := s.Prepared()
		says(t, "P19.3 prepared: note, "+x.about, h[0].Note, note)
		is(t, "P19.4 Decide", s.Decide(txid(1, n), false), api.OK)
	}
	for _, x := range []api.Batch{
		edits(append(slices.Clone(many), put("one", ""))...), rows(append(slices.Clone(manyRows), row("one", ""))...),
		{Edits: many[:100], Rows: manyRows[99:]}, {Edits: many, Rows: manyRows[:1]},
	} {
		unprepared(t, "one more than MaxBatch", s, d, txid(2, 1), x, "", draw(1), 0, api.ErrArg)
	}
}

// TestPrepareRecord: what has more bytes than a record may have is told by the log, which goes on, as the store does.
func TestPrepareRecord(t *testing.T) {
	c := large
	c.Wal.Size = 1 << 18
	s, d := begun(t, c)
	var l []api.Edit
	for i := range 17 {
		l = append(l, put(fmt.Sprint("p", i), strings.Repeat("x", api.MaxPlain)))
	}
	for range 3 {
		unprepared(t, "a record that is too long", s, d, txid(1, 1), edits(l...), "", draw(1), 0, api.ErrLong)
	}
	is(t, "P19.2 Down", s.Down(), api.OK)
	commits(t, s, txid(1, 1), edits(l[:15]...))
	is(t, "P19.2 Own", s.Own(1), api.OK)
}

// TestVersions: those that edits will make, where one path stands twice, and more often.
func TestVersions(t *testing.T) {
	s, _ := begun(t, large)
	remove := func(path string) api.Edit { return api.Edit{Kind: api.EditDelete, Path: path, Any: true} }
	destroy := func(path string, n uint64) api.Edit {
		return api.Edit{Kind: api.EditDestroy, Path: path, N: n}
	}
	wants := func(path string, want uint64, text string) api.Edit {
		return api.Edit{Kind: api.EditPut, Path: path, Want: want, Text: text}
	}
	rise := rows(api.Row{Path: "r", Cell: api.Cell{Last: 1<<64 - 3, L: []api.Version{live(7, "seven"), {N: 1<<64 - 3, State: api.VerGone}}}})
	for i, x := range []struct {
		b    api.Batch
		want []uint64
	}{
		{edits(put("a", "1")), []uint64{1}},
		{edits(put("a", "2"), put("a", "3"), put("b", "1"), put("a", "4")), []uint64{2, 3, 1, 4}},
		{edits(destroy("a", 2), put("a", "5"), destroy("a", 3), remove("a"), destroy("a", 4)), []uint64{4, 5, 5, 6, 6}},
		{edits(wants("a", 0, "7"), wants("a", 7, "8"), remove("b"), remove("a"), wants("b", 0, "3")), []uint64{7, 8, 2, 9, 3}},
		{edits(), nil},
		{rise, nil},
		{edits(put("r", "a"), put("r", "b")), []uint64{1<<64 - 2, 1<<64 - 1}},
	} {
		id := txid(1, uint64(i))
		prepares(t, s, id, x.b, x.want...)
		is(t, "P19.4 Decide", s.Decide(id, true), api.OK)
		for at, e := range x.b.Edits {
			if e.Kind == api.EditPut && s.Last(e.Path) == x.want[at] {
				reads(t, "P19.3 what was made", s, e.Path, x.want[at], live(x.want[at], e.Text), api.OK)
			}
		}
	}
	l, at, err := s.Prepare(txid(2, 1), edits(put("c", ""), remove("c"), put("r", "c")), "", draw(1))
	if len(l) > 0 || at != 2 || err != api.ErrFull {
		t.Errorf("P19.3 Prepare behind the last version: %v, %d, %v", l, at, err)
	}
}

// envelopesOf are a batch's, in their order.
func envelopesOf(b api.Batch) []string {
	return slices.DeleteFunc(textsOf(b), func(s string) bool { return s == "" })
}

// TestNonces: each envelope's is the draw's, of the record's number and its own place.
func TestNonces(t *testing.T) {
	s, d := begun(t, large)
	for i, x := range []api.Batch{
		edits(put("a", "x"), api.Edit{Kind: api.EditDelete, Path: "a", Any: true, Text: "no text"}, put("a", "")),
		{Edits: []api.Edit{put("b", "x"), put("c", "")}, Rows: []api.Row{row("d", "", "x"), {Path: "e", Cell: api.Cell{Last: 9, L: []api.Version{live(3, "y"), {N: 5, State: api.VerDead}, {N: 7, State: api.VerGone}, live(9, "")}}}}},
		edits(slices.Repeat([]api.Edit{put("f", "x")}, 130)...),
		rows(row("g", "1", "2", "3", "4", "5", "6", "7", "8")),
	} {
		k := kept(t, d, large)
		number := k.First + uint64(len(k.Records))
		id := txid(1, uint64(i))
		if _, _, err := s.Prepare(id, x, "", draw(i)); err != api.OK {
			t.Fatalf("P19.3 Prepare: %v", err)
		}
		l := envelopesOf(s.Prepared()[0].Batch)
		want := 0
		for _, e := range x.Edits {
			if e.Kind == api.EditPut {
				want++
			}
		}
		for _, r := range x.Rows {
			for _, v := range r.Cell.L {
				if v.State == api.VerLive {
					want++
				}
			}
		}
		says(t, "P19.3 how many envelopes", len(l), want)
		for j, e := range l {
			says(t, "P19.3 an envelope's head", e[:api.SealHead], "\x01\x00\x00\x00\x01"+nonceOf(draw(i), number, uint64(j)))
		}
		is(t, "P19.4 Decide", s.Decide(id, true), api.OK)
		if i == 1 {
			is(t, "P19.6 Checkpoint", s.Checkpoint(), api.OK)
		}
	}
}

// TestPreparedIsKept: as it was handed in, but for texts; those of edits that put, and of live versions, are envelopes, all else has none.
func TestPreparedIsKept(t *testing.T) {
	s, d := begun(t, large)
	b := api.Batch{
		Edits: []api.Edit{
			{Kind: api.EditPut, Path: "a", Any: true, Want: 5, N: 6, Text: "secret"}, {Kind: api.EditDelete, Path: "a", Want: 1, N: 9},
			{Kind: api.EditDestroy, Path: "a", Any: true, Want: 3, N: 1}, {Kind: api.EditPut, Path: "b"},
		},
		Rows:  []api.Row{{Path: "c/d", Cell: api.Cell{Last: 1 << 40, L: []api.Version{live(3, ""), {N: 4, State: api.VerGone}, {N: 1 << 40, State: api.VerDead}}}}},
		Range: api.Range{From: 9, To: 8}, Map: 1 << 50, Own: []api.Range{{From: 5, To: 1 << 60}, all},
	}
	prepares(t, s, txid(7, 8), b, 1, 2, 2, 1)
	for range 3 {
		l := s.Prepared()
		if len(l) != 1 || l[0].Id != txid(7, 8) || l[0].Note != "" {
			t.Fatalf("P19.4 Prepared: %+v", l)
		}
		for i, size := range []int{6, -1, -1, 0, 0, -1, -1} {
			text := textsOf(l[0].Batch)[i]
			if size < 0 && text != "" || size >= 0 && len(text) != seal.Size(size) {
				t.Errorf("P19.3 text %d has %d bytes", i, len(text))
			}
		}
		got := l[0].Batch
		for i := range got.Edits {
			got.Edits[i].Text = b.Edits[i].Text
		}
		for i := range got.Rows[0].Cell.L {
			got.Rows[0].Cell.L[i].Text = b.Rows[0].Cell.L[i].Text
		}
		says(t, "P19.3 what is prepared", got, b)
		s = again(t, d, large)
	}
}

// TestQuota: the table's, and the weight of all that is prepared, just fill it, or are one above.
func TestQuota(t *testing.T) {
	e := seal.Size(0)
	steps := []struct {
		about        string
		b            api.Batch
		paths, bytes int // that it brings
		tablePaths   int // that it leaves in the table
		tableBytes   int
	}{
		{"a put", edits(put("abc", "xy")), 1, 3 + e + 2, 1, 3 + e + 2},
		{"a row", rows(row("r/s", "x", "", "yy")), 1, 3 + 3*e + 3, 1, 3 + 3*e + 3},
		{"a row without texts", rows(api.Row{Path: "gone", Cell: api.Cell{Last: 2, L: []api.Version{{N: 1, State: api.VerDead}, {N: 2, State: api.VerGone}}}}), 1, 4, 1, 4},
		{"two puts of one path", edits(put("d", "one"), put("d", "two")), 2, 2 + 2*e + 6, 1, 1 + 2*e + 6},
		{"a put, and what is no put", edits(put("f", ""), api.Edit{Kind: api.EditDelete, Path: "f", Any: true}), 1, 1 + e, 1, 1 + e},
		{"both", api.Batch{Edits: []api.Edit{put("g", "")}, Rows: []api.Row{row("h", "")}}, 2, 2 + 2*e, 2, 2 + 2*e},
	}
	for commit := range 1 << len(steps) {
		if commit%5 > 1 {
			continue
		}
		for short := range 2 {
			for at := range steps {
				// What is there and prepared ahead of at, and what that brings.
				paths, bytes := 0, 0
				for i, x := range steps[:at] {
					if commit>>i&1 == 1 {
						paths, bytes = paths+x.tablePaths, bytes+x.tableBytes
					} else {
						paths, bytes = paths+x.paths, bytes+x.bytes
					}
				}
				paths, bytes = paths+steps[at].paths, bytes+steps[at].bytes
				for _, q := range []api.Quota{{Paths: paths - short, Bytes: bytes}, {Paths: paths, Bytes: bytes - short}, {Paths: paths - short, Bytes: 1 << 20}, {Paths: 1 << 20, Bytes: bytes - short}} {
					open := large
					open.Quota = api.Quota{Paths: 1 << 20, Bytes: 1 << 20}
					s, d := begun(t, open)
					for i, x := range steps[:at] {
						commits := commit>>i&1 == 1
						if _, _, err := s.Prepare(txid(1, uint64(i)), x.b, "", draw(1)); err != api.OK {
							t.Fatalf("P19.3 Prepare of %s: %v", x.about, err)
						}
						if commits {
							is(t, "P19.4 Decide", s.Decide(txid(1, uint64(i)), true), api.OK)
						}
					}
					tight := large
					tight.Quota = q
					s = again(t, d, tight)
					opens(t, s)
					_, _, err := s.Prepare(txid(2, 1), steps[at].b, "", draw(1))
					if want := []api.Errno{api.OK, api.ErrQuota}[short]; err != want {
						t.Fatalf("P19.3 Prepare of %s behind %d others (%b committed), with %+v: %v, want %v", steps[at].about, at, commit, q, err, want)
					}
				}
			}
		}
	}
}

// TestQuotaGoes: what was decided has no weight any more; what brings nothing is never too much.
func TestQuotaGoes(t *testing.T) {
	c := large
	c.Quota = api.Quota{Paths: 2, Bytes: 2 * (1 + seal.Size(1))}
	s, d := begun(t, c)
	one := edits(put("a", "x"))
	two := edits(put("b", "y"))
	three := edits(put("c", "z"))
	prepares(t, s, txid(1, 1), one, 1)
	prepares(t, s, txid(1, 2), two, 1)
	unprepared(t, "a third one", s, d, txid(1, 3), three, "", draw(1), 0, api.ErrQuota)
	unprepared(t, "a row", s, d, txid(1, 3), rows(api.Row{Path: "r", Cell: api.Cell{Last: 1, L: []api.Version{{N: 1, State: api.VerGone}}}}), "", draw(1), 0, api.ErrQuota)
	is(t, "P19.4 Decide", s.Decide(txid(1, 1), false), api.OK)
	prepares(t, s, txid(1, 3), three, 1)
	is(t, "P19.4 Decide", s.Decide(txid(1, 3), true), api.OK)
	is(t, "P19.4 Decide", s.Decide(txid(1, 2), true), api.OK)
	unprepared(t, "one more", s, d, txid(1, 4), one, "", draw(1), 0, api.ErrQuota)
	unprepared(t, "one in the place of another", s, d, txid(1, 4), edits(put("b", "")), "", draw(1), 0, api.ErrQuota)
	c.Quota = api.Quota{}
	s = again(t, d, c)
	opens(t, s)
	prepares(t, s, txid(1, 4), edits(api.Edit{Kind: api.EditDelete, Path: "c", Any: true}), 2)
	prepares(t, s, txid(1, 5), edits(api.Edit{Kind: api.EditDestroy, Path: "b", N: 1}), 1)
	prepares(t, s, txid(1, 6), api.Batch{Map: 1, Own: []api.Range{all}})
	prepares(t, s, txid(1, 7), api.Batch{})
	is(t, "P19.4 Decide", s.Decide(txid(1, 4), true), api.OK)
	unprepared(t, "with a quota of nothing", s, d, txid(1, 8), edits(put("c", "")), "", draw(1), 0, api.ErrQuota)
	c.Quota = api.Quota{Paths: -1, Bytes: -1}
	s = again(t, d, c)
	opens(t, s)
	unprepared(t, "with a quota below nothing", s, d, txid(1, 8), edits(put("c", "")), "", draw(1), 0, api.ErrQuota)
	prepares(t, s, txid(1, 8), edits())
}

// TestRoom: a log with just room for the record and DecideSize bytes more, and with one byte less; also for a record that begins a file.
func TestRoom(t *testing.T) {
	id := txid(1, 1)
	record := func(note int) int {
		size := 1
		if note >= 128 {
			size = 2
		}
		return 16 + 3 + size + note + 7 // its frame, of nothing but the note
	}
	for _, x := range []struct {
		about string
		size  int // of each of two files that are not free for a checkpoint
		ahead int // records of 99 bytes ahead, with their frames, behind 123 others
		head  int // bytes of a head that the record needs
	}{
		{"an empty log", 1000, 0, 0},
		{"a log with records", 1000, 5, 0},
		{"a log whose first file is a byte less than full", 223, 1, 0},
		{"a log whose first file is just full", 222, 1, 18},
		{"a log whose first file is more than full", 221, 1, 18},
		{"a log whose first file was full", 200, 2, 0},
	} {
		c := api.StoreConf{Wal: api.WalConf{Files: 3, Size: x.size, Check: 3000}, Quota: large.Quota}
		for _, byDisk := range []bool{false, true} {
			for more := -2; more <= 2; more++ {
				d := mustDisk(t, 3, 1<<20)
				s := mustMake(t, d, c)
				if _, err := s.Begin(root, key(0), draw(0)); err != api.OK {
					t.Fatalf("P19.2 Begin: %v", err)
				}
				for i := range x.ahead {
					// 6, an epoch, how many ranges, and two bytes of each.
					is(t, "P19.2 Own", s.Own(uint64(i+1), make([]api.Range, 40)...), api.OK)
				}
				used := 0
				for _, text := range filesOf(d) {
					used += len(text)
				}
				room := 2*x.size - used
				if byDisk {
					room -= 30
					tight := c
					tight.Wal.Check = 1<<20 - used - room
					s = again(t, d, tight)
					opens(t, s)
				}
				note := 0
				for record(note)+x.head+96 < room+more {
					note++
				}
				if record(note)+x.head+96 != room+more {
					continue // A note's count has just become two bytes.
				}
				want := api.OK
				if more > 0 {
					want = api.ErrFull
				}
				text := strings.Repeat("n", note)
				if want != api.OK {
					unprepared(t, x.about, s, d, id, api.Batch{}, text, draw(1), 0, want)
					unprepared(t, x.about, s, d, id, api.Batch{}, text, draw(1), 0, want)
					prepares(t, s, id, api.Batch{})
					continue
				}
				if _, _, err := s.Prepare(id, api.Batch{}, text, draw(1)); err != want {
					t.Errorf("P19.3 Prepare on %s, with %d bytes more than need be: %v", x.about, -more, err)
					continue
				}
				// What is left is the decision's.
				is(t, "P19.4 Refuse without room", s.Refuse(txid(1, 2)), api.ErrFull)
				_, _, err := s.Prepare(txid(1, 2), api.Batch{}, "", draw(1))
				is(t, "P19.3 Prepare without room", err, api.ErrFull)
				is(t, "P19.2 Own without room", s.Own(1<<60), api.ErrFull)
				is(t, "P19.2 Down", s.Down(), api.OK)
				is(t, "P19.4 Decide", s.Decide(id, more%2 == 0), api.OK)
			}
		}
	}
}

// TestPrepareOwnMemory: nothing that was handed in is changed, or kept.
func TestPrepareOwnMemory(t *testing.T) {
	fresh := func() api.Batch {
		return api.Batch{
			Edits: []api.Edit{put("a", "secret"), {Kind: api.EditDelete, Path: "a", Any: true}},
			Rows:  []api.Row{row("b", "x", "y"), row("c", "z")},
			Drop:  true, Range: api.Range{From: placeOf("d"), To: placeOf("d")}, Map: 4, Own: []api.Range{{From: 1, To: 2}, {From: 3, To: 4}},
		}
	}
	spoil := func(b api.Batch) {
		for i := range b.Edits {
			b.Edits[i] = put("spoilt", "spoilt")
		}
		for i := range b.Rows {
			for j := range b.Rows[i].Cell.L {
				b.Rows[i].Cell.L[j] = live(99, "spoilt")
			}
			b.Rows[i] = api.Row{Path: "spoilt"}
		}
		for i := range b.Own {
			b.Own[i] = api.Range{From: 77, To: 88}
		}
	}
	s, _ := begun(t, large)
	commits(t, s, txid(1, 1), edits(put("d", "x")))
	b := fresh()
	prepares(t, s, txid(1, 2), b, 1, 2)
	says(t, "P19.3 what was handed in", b, fresh())
	was := fmt.Sprint(s.Prepared())
	spoil(b)
	says(t, "P19.3 behind a change of what was handed in", fmt.Sprint(s.Prepared()), was)
	l := s.Prepared()
	spoil(l[0].Batch)
	l[0] = api.Held{}
	says(t, "P19.4 behind a change of an answer", fmt.Sprint(s.Prepared()), was)
	is(t, "P19.4 Decide", s.Decide(txid(1, 2), true), api.OK)
	epoch, own := s.Owned()
	says(t, "P19.2 Owned", fmt.Sprint(epoch, own), "4 [{1 2} {3 4}]")
	reads(t, "P19.5", s, "a", 1, live(1, "secret"), api.OK)
	reads(t, "P19.5", s, "b", 2, live(2, "y"), api.OK)
	reads(t, "P19.5", s, "d", 0, api.Version{}, api.ErrNone)
	own[0] = api.Range{From: 9, To: 9}
	_, own = s.Owned()
	says(t, "P19.2 Owned behind a change of an answer", fmt.Sprint(own), "[{1 2} {3 4}]")
	table, err := s.Export(all)
	is(t, "P19.5 Export", err, api.OK)
	was = fmt.Sprint(table)
	spoil(api.Batch{Rows: table})
	table, _ = s.Export(all)
	says(t, "P19.5 Export behind a change of an answer", fmt.Sprint(table), was)
	ranges := []api.Range{{From: 5, To: 6}}
	is(t, "P19.2 Own", s.Own(9, ranges...), api.OK)
	ranges[0].To = 99
	_, own = s.Owned()
	says(t, "P19.2 Owned behind a change of what was handed in", fmt.Sprint(own), "[{5 6}]")
}

// isOf is whether a text stands in another one's memory.
func isOf(text, other string) bool {
	at, from := uintptr(unsafe.Pointer(unsafe.StringData(text))), uintptr(unsafe.Pointer(unsafe.StringData(other)))
	return len(text) > 0 && at >= from && at < from+uintptr(len(other))
}

// TestKeepsNothing: no path, note or text that a store has stands in a caller's memory, so that it keeps no long text alive for a short one.
func TestKeepsNothing(t *testing.T) {
	long := strings.Repeat("some/path.and-text_", 1000)
	s, _ := begun(t, large)
	b := api.Batch{Edits: []api.Edit{put(long[19:28], long[5:50]), {Kind: api.EditDelete, Path: long[19:28], Any: true, Text: long[1:9]}}, Rows: []api.Row{row(long[43:47], long[7:77])}}
	if _, _, err := s.Prepare(txid(1, 1), b, long[3:30], draw(1)); err != api.OK {
		t.Fatalf("P19.3 Prepare: %v", err)
	}
	kept := func(about string, l ...string) {
		t.Helper()
		for _, text := range l {
			if isOf(text, long) {
				t.Errorf("R5 %s keeps the memory of %q", about, text)
			}
		}
	}
	h := s.Prepared()[0]
	kept("Prepare", append(textsOf(h.Batch), h.Note, h.Batch.Edits[0].Path, h.Batch.Edits[1].Path, h.Batch.Rows[0].Path)...)
	is(t, "P19.4 Decide", s.Decide(txid(1, 1), true), api.OK)
	table, err := s.Export(all)
	is(t, "P19.5 Export", err, api.OK)
	for _, r := range table {
		kept("Decide", r.Path)
	}
}

// TestManyPrepared: rising, whatever the order in which they came.
func TestManyPrepared(t *testing.T) {
	s, d := begun(t, large)
	m := map[api.Txid]string{}
	dice := dice(1)
	for i := range 60 {
		id := txid(uint64(dice.upTo(5)), uint64(dice.upTo(1000))<<(dice.upTo(2)*40))
		if _, is := m[id]; is {
			continue
		}
		m[id] = fmt.Sprint("note ", i)
		if _, _, err := s.Prepare(id, edits(put(fmt.Sprint("p", i), "x")), m[id], draw(i)); err != api.OK {
			t.Fatalf("P19.3 Prepare: %v", err)
		}
	}
	for round := range 4 {
		l := s.Prepared()
		says(t, "P19.4 how many are prepared", len(l), len(m))
		for i, h := range l {
			if i > 0 && !less(l[i-1].Id, h.Id) {
				t.Errorf("P19.4 Prepared: %v ahead of %v", l[i-1].Id, h.Id)
			}
			says(t, "P19.4 Prepared: a note", h.Note, m[h.Id])
		}
		for _, id := range slices.Collect(maps.Keys(m)) {
			if (id.N+id.Life)%3 == uint64(round) {
				is(t, "P19.4 Decide", s.Decide(id, id.N%2 == 0), api.OK)
				delete(m, id)
			}
		}
		if round == 1 {
			is(t, "P19.6 Checkpoint", s.Checkpoint(), api.OK)
		}
		s = again(t, d, large)
	}
}
