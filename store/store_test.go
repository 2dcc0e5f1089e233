package store_test

import (
	"fmt"
	"slices"
	"strings"
	"testing"

	"scrinium/api"
	"scrinium/disk"
	"scrinium/keyring"
	"scrinium/seal"
	"scrinium/store"
	"scrinium/wal"
	"scrinium/wire"
	"scrinium/word"
)

var (
	root  = pattern(32, 0)
	other = strings.Repeat("Z", 32)
	large = api.StoreConf{Wal: api.WalConf{Files: 4, Size: 1 << 16, Check: 1 << 16}, Quota: api.Quota{Paths: 1000, Bytes: 1 << 20}}
)

// pattern is n bytes that repeat only after 256, from one of them on.
func pattern(n, from int) string {
	b := make([]byte, n)
	for i := range b {
		b[i] = byte((i+from)*7 + 3)
	}
	return string(b)
}

// key is one of several keys.
func key(i int) string { return pattern(32, 100+i) }

// draw is one of several draws.
func draw(i int) string { return pattern(12, 50+i) }

// txid is a transaction.
func txid(life, n uint64) api.Txid { return api.Txid{Life: life, N: n} }

// put is an edit that puts a text, whatever is there.
func put(path, text string) api.Edit {
	return api.Edit{Kind: api.EditPut, Path: path, Any: true, Text: text}
}

// edits is a batch of edits alone.
func edits(l ...api.Edit) api.Batch { return api.Batch{Edits: l} }

// row is a row of a live version of each text.
func row(path string, texts ...string) api.Row {
	r := api.Row{Path: path}
	for i, text := range texts {
		r.Cell.Last = uint64(i + 1)
		r.Cell.L = append(r.Cell.L, api.Version{N: r.Cell.Last, State: api.VerLive, Text: text})
	}
	return r
}

// rows is a batch of rows alone.
func rows(l ...api.Row) api.Batch { return api.Batch{Rows: l} }

// unhex is the bytes of a hex text that stands in a test.
func unhex(s string) string {
	b, is := word.Unhex(s)
	if !is {
		panic("no hex text: " + s)
	}
	return b
}

// is says where a call was answered something else.
func is(t *testing.T, about string, got, want api.Errno) {
	t.Helper()
	if got != want {
		t.Errorf("%s: %v, want %v", about, got, want)
	}
}

// says says where something is not as it should be.
func says(t *testing.T, about string, got, want any) {
	t.Helper()
	told := func(x any) string { return fmt.Sprintf("%v %q", x, x) }
	if g, w := told(got), told(want); g != w {
		t.Errorf("%s: %.500q, want %.500q", about, g, w)
	}
}

// mustDisk is a disk of so many files, with so much room.
func mustDisk(t *testing.T, files, room int) *disk.Disk {
	t.Helper()
	d, err := disk.New(files, room)
	if err != api.OK {
		t.Fatalf("no disk of %d files with room for %d: %v", files, room, err)
	}
	return d
}

// mustMake is a store that Make made.
func mustMake(t *testing.T, d *disk.Disk, c api.StoreConf) *store.Store {
	t.Helper()
	s, err := store.Make(d, c)
	if s == nil || err != api.OK {
		t.Fatalf("P19.1 Make(%+v): %v", c, err)
	}
	return s
}

// mustOpen is the store that a disk has.
func mustOpen(t *testing.T, d *disk.Disk, c api.StoreConf) *store.Store {
	t.Helper()
	s, err := store.Open(d, c)
	if s == nil || err != api.OK {
		t.Fatalf("P19.1 Open(%+v): %v", c, err)
	}
	return s
}

// made is an empty store on a disk of its own.
func made(t *testing.T, c api.StoreConf) (*store.Store, *disk.Disk) {
	t.Helper()
	d := mustDisk(t, c.Wal.Files, 1<<20)
	return mustMake(t, d, c), d
}

// opens lets a sealed store, whose root is one share, be open.
func opens(t *testing.T, s *store.Store) {
	t.Helper()
	if open, err := s.Unseal("\x01\x01" + root); !open || err != api.OK {
		t.Fatalf("P19.2 Unseal: %v, %v", open, err)
	}
}

// begun is a store that was begun, with its root as one share.
func begun(t *testing.T, c api.StoreConf) (*store.Store, *disk.Disk) {
	t.Helper()
	s, d := made(t, c)
	if l, err := s.Begin(root, key(0), draw(0)); err != api.OK || !slices.Equal(l, []string{"\x01\x01" + root}) {
		t.Fatalf("P19.2 Begin: %q, %v", l, err)
	}
	return s, d
}

// again is the store behind a crash that leaves what was synced alone, sealed.
func again(t *testing.T, d *disk.Disk, c api.StoreConf) *store.Store {
	t.Helper()
	is(t, "Crash", d.Crash(-1, 0), api.OK)
	return mustOpen(t, d, c)
}

// prepares says where a batch is not prepared, or has other versions.
func prepares(t *testing.T, s *store.Store, id api.Txid, b api.Batch, want ...uint64) {
	t.Helper()
	l, at, err := s.Prepare(id, b, "", draw(1))
	if !slices.Equal(l, want) || at != 0 || err != api.OK {
		t.Fatalf("P19.3 Prepare(%v, %.200s): %v, %d, %v, want %v", id, fmt.Sprintf("%+v", b), l, at, err, want)
	}
}

// unprepared says where a batch is not refused so, or something was changed.
func unprepared(t *testing.T, about string, s *store.Store, d *disk.Disk, id api.Txid, b api.Batch, note, nonce string, place int, want api.Errno) {
	t.Helper()
	was, files := tell(s), filesOf(d)
	l, at, err := s.Prepare(id, b, note, nonce)
	if len(l) > 0 || at != place || err != want {
		t.Errorf("P19.3 Prepare, %s: %v, %d, %v, want none, %d, %v", about, l, at, err, place, want)
	}
	if tell(s) != was || !slices.Equal(filesOf(d), files) {
		t.Errorf("P19.3 Prepare, %s: it has changed something", about)
	}
}

// commits prepares a batch, and decides that it is committed.
func commits(t *testing.T, s *store.Store, id api.Txid, b api.Batch) {
	t.Helper()
	if _, _, err := s.Prepare(id, b, "", draw(1)); err != api.OK {
		t.Fatalf("P19.3 Prepare(%v, %.200s): %v", id, fmt.Sprintf("%+v", b), err)
	}
	is(t, "P19.4 Decide", s.Decide(id, true), api.OK)
}

// reads says where a version is read as another one.
func reads(t *testing.T, about string, s *store.Store, path string, n uint64, want api.Version, e api.Errno) {
	t.Helper()
	if v, err := s.Read(path, n); v != want || err != e {
		t.Errorf("%s: Read(%q, %d): %+v, %v, want %+v, %v", about, path, n, v, err, want, e)
	}
}

// live is a version that is live.
func live(n uint64, text string) api.Version {
	return api.Version{N: n, State: api.VerLive, Text: text}
}

// kept is what a disk's log has.
func kept(t *testing.T, d *disk.Disk, c api.StoreConf) api.Kept {
	t.Helper()
	copied := d.Copy()
	copied.Fuse(-1)
	_, k, err := wal.Open(copied, c.Wal)
	if err != api.OK {
		t.Fatalf("no log: %v", err)
	}
	return k
}

// laid is a disk with a log of a text, and of records.
func laid(t *testing.T, c api.StoreConf, text string, records ...string) *disk.Disk {
	t.Helper()
	d := mustDisk(t, c.Wal.Files, 1<<20)
	w, err := wal.Make(d, c.Wal, text)
	if err == api.OK {
		_, err = w.Append(0, records...)
	}
	if err == api.OK {
		err = w.Sync()
	}
	if err != api.OK {
		t.Fatalf("no log of %d records: %v", len(records), err)
	}
	return d
}

// R3

// TestNotThere: each function of stores that are none.
func TestNotThere(t *testing.T) {
	for _, s := range []*store.Store{nil, {}, new(store.Store)} {
		for range 2 {
			_, begin := s.Begin(root, key(0), draw(0))
			open, unseal := s.Unseal("\x01\x01" + root)
			epoch, rotate := s.Rotate(key(1), draw(1))
			versions, at, prepare := s.Prepare(txid(1, 1), edits(put("a", "b")), "", draw(2))
			version, read := s.Read("a", 0)
			names, list := s.List("")
			table, export := s.Export(all)
			for i, err := range []api.Errno{
				begin, unseal, s.Seal(), rotate, s.Own(1, all), prepare, s.Decide(txid(1, 1), true), s.Refuse(txid(1, 1)), s.Low(txid(1, 1)),
				read, list, export, s.Checkpoint(), s.Down(),
			} {
				is(t, fmt.Sprintf("R3 call %d", i), err, api.ErrNil)
			}
			mapEpoch, own := s.Owned()
			if open || epoch != 0 || len(versions) > 0 || at != 0 || version != (api.Version{}) || len(names)+len(table)+len(own) > 0 || mapEpoch != 0 {
				t.Error("R3 an answer beside ErrNil")
			}
			if s.State() != api.BarNone || s.Has("a") || s.Refused(txid(0, 0)) || s.Committed(txid(0, 0)) || len(s.Prepared()) > 0 || s.Now("a")+s.Last("a") > 0 {
				t.Error("R3 what is none has something")
			}
			// With what else may not be, too.
			_, begin = s.Begin("", "", "")
			_, rotate = s.Rotate("", "")
			_, _, prepare = s.Prepare(txid(1, 1), edits(put("A", "")), "", "")
			_, export = s.Export(api.Range{From: 1})
			for i, err := range []api.Errno{begin, rotate, prepare, export, s.Own(0, api.Range{From: 1}), s.Low(txid(0, 0))} {
				is(t, fmt.Sprintf("R3 wrong call %d", i), err, api.ErrNil)
			}
		}
	}
}

// TestExample: the chapter's.
func TestExample(t *testing.T) {
	s, _ := begun(t, large)
	is(t, "P19.2 Own", s.Own(1, all), api.OK)
	prepares(t, s, txid(1, 1), edits(put("a/b", "the text")), 1)
	reads(t, "P19.5 prepared", s, "a/b", 0, api.Version{}, api.ErrNone)
	is(t, "P19.4 Decide", s.Decide(txid(1, 1), true), api.OK)
	reads(t, "P19.5", s, "a/b", 0, live(1, "the text"), api.OK)
	is(t, "P19.2 Seal", s.Seal(), api.OK)
	reads(t, "P19.5", s, "a/b", 0, api.Version{}, api.ErrSealed)
}

// P19.1

// isEmpty says where a store is not an empty one.
func isEmpty(t *testing.T, about string, s *store.Store) {
	t.Helper()
	says(t, about, tell(s), newPlain(large, 1<<12).tell())
	epoch, own := s.Owned()
	if s.State() != api.BarNone || epoch != 0 || len(own) > 0 || len(s.Prepared()) > 0 || s.Down() != api.OK {
		t.Errorf("%s: it is not empty", about)
	}
}

func TestMake(t *testing.T) {
	s, d := made(t, large)
	isEmpty(t, "P19.1 Make", s)
	says(t, "P19.1 Make: the log", kept(t, d, large), api.Kept{First: 1})
	says(t, "P19.1 Make: loose", d.Loose(), 0)
	isEmpty(t, "P19.1 Open of an empty one", again(t, d, large))
}

// TestMakeAnew: on a disk that has a store already, at once, and behind a checkpoint.
func TestMakeAnew(t *testing.T) {
	for _, check := range []bool{false, true} {
		s, d := begun(t, large)
		is(t, "P19.2 Own", s.Own(3, all), api.OK)
		commits(t, s, txid(1, 1), edits(put("a", "b")))
		prepares(t, s, txid(1, 2), edits(put("c", "d")), 1)
		if check {
			is(t, "P19.6 Checkpoint", s.Checkpoint(), api.OK)
		}
		s = mustMake(t, d, large)
		isEmpty(t, "P19.1 Make anew", s)
		says(t, "P19.1 Make anew: the log", kept(t, d, large), api.Kept{First: 1})
		isEmpty(t, "P19.1 Open behind it", again(t, d, large))
	}
}

// TestErrorsOfTheLog: what wal.Make and wal.Open tell, and leave of the disk.
func TestErrorsOfTheLog(t *testing.T) {
	disks := []func() *disk.Disk{
		func() *disk.Disk { return nil },
		func() *disk.Disk { return new(disk.Disk) },
		func() *disk.Disk { return mustDisk(t, 3, 1000) },
		func() *disk.Disk { return mustDisk(t, 4, 0) },
		func() *disk.Disk { return mustDisk(t, 4, 17) },
		func() *disk.Disk { return mustDisk(t, 4, 18) },
		func() *disk.Disk { return mustDisk(t, 4, 1000) },
		func() *disk.Disk {
			d := mustDisk(t, 4, 10)
			d.Write(1, "no log")
			d.Write(3, "none")
			d.Sync()
			return d
		},
		func() *disk.Disk { return laid(t, large, "", "\x03\x01\x02", "\x05\x01\x01") },
	}
	wrong := large
	wrong.Wal.Check = 31
	seen := map[api.Errno]int{}
	for i, some := range disks {
		for _, c := range []api.StoreConf{large, wrong} {
			for fuse := -1; fuse < 6; fuse++ {
				about := fmt.Sprintf("P19.1 disk %d with a fuse of %d", i, fuse)
				d, e := some(), some()
				d.Fuse(fuse)
				e.Fuse(fuse)
				s, err := store.Make(d, c)
				_, want := wal.Make(e, c.Wal, "")
				is(t, about+": Make", err, want)
				says(t, about+": a store", s != nil, want == api.OK)
				if d != nil {
					says(t, about+": files behind Make", filesOf(d), filesOf(e))
				}
				seen[err]++
				d, e = some(), some()
				d.Fuse(fuse)
				e.Fuse(fuse)
				s, err = store.Open(d, c)
				_, _, want = wal.Open(e, c.Wal)
				is(t, about+": Open", err, want)
				says(t, about+": a store", s != nil, want == api.OK)
				if d != nil {
					says(t, about+": files behind Open", filesOf(d), filesOf(e))
				}
				seen[err]++
			}
		}
	}
	for _, err := range []api.Errno{api.OK, api.ErrNil, api.ErrArg, api.ErrFull, api.ErrDown, api.ErrNothing} {
		if seen[err] == 0 {
			t.Errorf("P19.1 %v was never told", err)
		}
	}
}

// TestOpenSealed: sealed, if it was begun.
func TestOpenSealed(t *testing.T) {
	s, d := made(t, large)
	is(t, "P19.2 Own", s.Own(1, all), api.OK)
	if s = again(t, d, large); s.State() != api.BarNone {
		t.Errorf("P19.1 Open of one that is not begun: state %d", s.State())
	}
	for range 2 {
		if _, err := s.Begin(root, key(0), draw(0)); err != api.OK {
			t.Errorf("P19.2 Begin: %v", err)
		}
		if s = again(t, d, large); s.State() != api.BarSealed {
			t.Errorf("P19.1 Open of one that was begun: state %d", s.State())
		}
		opens(t, s)
		is(t, "P19.6 Checkpoint", s.Checkpoint(), api.OK)
		if s = again(t, d, large); s.State() != api.BarSealed {
			t.Errorf("P19.1 Open of one that was begun, behind a checkpoint: state %d", s.State())
		}
		s = mustMake(t, d, large)
	}
}

// history is a store that has seen each kind of record, and its log; then a checkpoint, and its text.
func history(t *testing.T) (records []string, text string) {
	t.Helper()
	c := large
	s, d := begun(t, c)
	is(t, "P19.2 Own", s.Own(2, api.Range{To: 5}, api.Range{From: 9, To: 9}), api.OK)
	commits(t, s, txid(1, 1), api.Batch{Edits: []api.Edit{put("a", "one"), put("a", "two"), {Kind: api.EditDelete, Path: "a", Any: true}}, Rows: []api.Row{row("r", "", "row")}})
	prepares(t, s, txid(1, 3), api.Batch{Edits: []api.Edit{{Kind: api.EditDestroy, Path: "r", N: 1}, put("s", "")}, Drop: true, Range: api.Range{From: 1, To: 2}, Map: 300, Own: []api.Range{all}}, 2, 1)
	prepares(t, s, txid(1, 2), rows(row("x/y", "row")))
	is(t, "P19.4 Refuse", s.Refuse(txid(2, 2)), api.OK)
	is(t, "P19.4 Low", s.Low(txid(1, 1)), api.OK)
	if _, err := s.Rotate(key(1), draw(2)); err != api.OK {
		t.Fatalf("P19.2 Rotate: %v", err)
	}
	is(t, "P19.4 Refuse", s.Refuse(txid(2, 1)), api.OK)
	commits(t, s, txid(1, 4), edits())
	records = kept(t, d, c).Records
	is(t, "P19.6 Checkpoint", s.Checkpoint(), api.OK)
	return records, kept(t, d, c).Text
}

// forms says where a log is not taken, or refused, as it should be.
func forms(t *testing.T, about string, want api.Errno, text string, records ...string) {
	t.Helper()
	s, err := store.Open(laid(t, large, text, records...), large)
	if err != want || (s != nil) != (want == api.OK) {
		t.Errorf("P19.1 Open, %s: %v, %v, want %v", about, s != nil, err, want)
	}
}

// TestOpenCut: records and checkpoints that are cut anywhere, or have bytes behind them.
func TestOpenCut(t *testing.T) {
	records, text := history(t)
	forms(t, "a history", api.OK, "", records...)
	forms(t, "a checkpoint", api.OK, text)
	forms(t, "a checkpoint, and records behind it", api.OK, text, "\x04\x01\x03\x01", "\x03\x05\x05")
	for i, one := range records {
		ahead := records[:i:i]
		for n := range len(one) {
			forms(t, fmt.Sprintf("record %d with %d of its bytes", i, n), api.ErrForm, "", append(ahead, one[:n])...)
		}
		for _, more := range []string{"\x00", "\x01", one} {
			forms(t, fmt.Sprintf("record %d with bytes behind it", i), api.ErrForm, "", append(ahead, one+more)...)
		}
		forms(t, "a record that is none, ahead of others", api.ErrForm, "", append(append(ahead, "none"), records[i:]...)...)
	}
	for n := 1; n < len(text); n++ {
		forms(t, fmt.Sprintf("a checkpoint with %d of its bytes", n), api.ErrForm, text[:n])
	}
	for _, more := range []string{"\x00", "\x01", text} {
		forms(t, "a checkpoint with bytes behind it", api.ErrForm, text+more)
	}
}

// TestOpenAltered: whatever a byte is, the call ends, with a store or with ErrForm.
func TestOpenAltered(t *testing.T) {
	records, text := history(t)
	check := func(about, text string, records ...string) {
		t.Helper()
		s, err := store.Open(laid(t, large, text, records...), large)
		if err != api.OK && err != api.ErrForm || (s != nil) != (err == api.OK) {
			t.Errorf("P19.1 Open, %s: %v, %v", about, s != nil, err)
		}
	}
	altered := func(s string, at int, by byte) string {
		b := []byte(s)
		b[at] ^= by
		return string(b)
	}
	for _, by := range []byte{1, 2, 0x40, 0x80, 0xff} {
		for i, one := range records {
			for at := range one {
				l := slices.Clone(records)
				l[i] = altered(one, at, by)
				check(fmt.Sprintf("byte %d of record %d either or %d", at, i, by), "", l...)
			}
		}
		for at := range text {
			check(fmt.Sprintf("byte %d of a checkpoint either or %d", at, by), altered(text, at, by))
		}
	}
}

// TestOpenNone: records and checkpoints that are none of a store's.
func TestOpenNone(t *testing.T) {
	records, text := history(t)
	begin := records[0]
	for _, one := range []string{
		"", "\x00", "\x07", "\x08\x01\x01", "a", "abc", "\x80", "\x83\x00\x01\x01", "\xff\xff\xff\xff\xff\xff\xff\xff\xff\x01", "\xff\xff\xff\xff\xff\xff\xff\xff\xff\xff", strings.Repeat("\x00", 100),
		"\x01\x00", "\x01\x05abcde", "\x02\x01", "\x02\x01\x01\x00\x01\x01\x00\x00", "\x03", "\x03\x01", "\x04\x01\x01", "\x05", "\x06\x01\x01\x05", "\x06\x01\x01\x05\x04", "\x06\x01\xff\xff\x03",
	} {
		forms(t, fmt.Sprintf("a record %.20q", one), api.ErrForm, "", one)
		forms(t, fmt.Sprintf("a record %.20q behind others", one), api.ErrForm, "", append(slices.Clone(records), one)...)
	}
	forms(t, "a decision of what is not prepared", api.ErrForm, "", begin, "\x04\x01\x01\x01")
	forms(t, "a decision twice", api.ErrForm, "", append(slices.Clone(records), "\x04\x01\x02\x01", "\x04\x01\x02\x01")...)
	forms(t, "a truth that is none", api.ErrForm, "", append(slices.Clone(records), "\x04\x01\x02\x02")...)
	for _, one := range []string{"\x00", "abc", "no checkpoint", strings.Repeat("\x00", 8), strings.Repeat("\x00", 10), "\x05abcde" + strings.Repeat("\x00", 8), text[1:], records[0], strings.Repeat("\xff", 50)} {
		forms(t, fmt.Sprintf("a checkpoint %.20q", one), api.ErrForm, one)
	}
	forms(t, "the checkpoint of an empty one", api.OK, strings.Repeat("\x00", 9))
}

// closedOf is an envelope of a store that begun begins, whatever it is for.
func closedOf(size int) string {
	r, _ := keyring.New(key(0))
	e, err := seal.Close(r, "a", 1, draw(0), strings.Repeat("x", size))
	if err != api.OK {
		panic("no envelope: " + err.Error())
	}
	return e
}

// heldRecord is the record of a batch that is prepared.
func heldRecord(id api.Txid, b api.Batch, note string) string {
	return "\x02" + heldBytes(api.Held{Id: id, Note: note, Batch: b})
}

// TestOpenBatch: batches that may be, and such as no store prepares.
func TestOpenBatch(t *testing.T) {
	records, _ := history(t)
	e := closedOf(3)
	longest, longer := closedOf(api.MaxPlain), closedOf(api.MaxPlain+1)
	edit := func(kind uint8, path, text string) api.Batch {
		return edits(api.Edit{Kind: kind, Path: path, Any: true, N: 1, Text: text})
	}
	versions := func(l ...api.Version) api.Batch {
		return rows(api.Row{Path: "a", Cell: api.Cell{Last: l[len(l)-1].N, L: l}})
	}
	wrong := row("a", e)
	wrong.Cell.Last = 2
	for _, x := range []struct {
		about string
		b     api.Batch
		want  api.Errno
	}{
		{"nothing", api.Batch{}, api.OK},
		{"a put", edit(1, "a", e), api.OK},
		{"a put of the longest text", edit(1, "a", longest), api.OK},
		{"a put of a text that is too long", edit(1, "a", longer), api.ErrForm},
		{"a put without an envelope", edit(1, "a", ""), api.ErrForm},
		{"a put of what is no envelope", edit(1, "a", e[1:]), api.ErrForm},
		{"a put of a short one", edit(1, "a", e[:48]), api.ErrForm},
		{"a delete", edit(2, "a", ""), api.OK},
		{"a delete with an envelope", edit(2, "a", e), api.ErrForm},
		{"a destroy", edit(3, "a", ""), api.OK},
		{"a destroy with a text", edit(3, "a", "x"), api.ErrForm},
		{"an edit of no kind", edit(0, "a", ""), api.ErrForm},
		{"an edit of another kind", edit(4, "a", ""), api.ErrForm},
		{"an edit of no path", edit(1, "A", e), api.ErrForm},
		{"MaxBatch edits", edits(slices.Repeat([]api.Edit{put("a", e)}, 256)...), api.OK},
		{"one more", edits(slices.Repeat([]api.Edit{put("a", e)}, 257)...), api.ErrForm},
		{"rows", rows(row("a", e), row("b", e, longest)), api.OK},
		{"a row twice", rows(row("a", e), row("a", e)), api.ErrForm},
		{"a row of no path", rows(row("", e)), api.ErrForm},
		{"a row without a version", rows(api.Row{Path: "a"}), api.ErrForm},
		{"a row whose cell may not be", rows(wrong), api.ErrForm},
		{"a row without an envelope", rows(row("a", "")), api.ErrForm},
		{"a row of what is no envelope", rows(row("a", "text")), api.ErrForm},
		{"a row of a text that is too long", rows(row("a", e, longer)), api.ErrForm},
		{"versions without texts", versions(api.Version{N: 1, State: api.VerDead}, api.Version{N: 5, State: api.VerGone}), api.OK},
		{"a version that is gone with a text", versions(api.Version{N: 1, State: api.VerGone, Text: e}), api.ErrForm},
		{"a version of no state", versions(api.Version{N: 1}), api.ErrForm},
		{"a drop", api.Batch{Drop: true, Range: api.Range{From: 5, To: 5}}, api.OK},
		{"a drop of a range that is turned", api.Batch{Drop: true, Range: api.Range{From: 5, To: 4}}, api.ErrForm},
		{"a range that is turned", api.Batch{Range: api.Range{From: 5, To: 4}}, api.OK},
		{"a map", api.Batch{Map: 1, Own: []api.Range{all}}, api.OK},
		{"a map of a range that is turned", api.Batch{Map: 1, Own: []api.Range{all, {From: 1}}}, api.ErrForm},
		{"ranges without a map", api.Batch{Own: []api.Range{all}}, api.ErrForm},
	} {
		forms(t, "a batch of "+x.about, x.want, "", records[0], heldRecord(txid(1, 1), x.b, "note"))
		held := wire.Uints(1) + heldRecord(txid(1, 1), x.b, "note")[1:]
		forms(t, "a checkpoint with a batch of "+x.about, x.want, records[0][1:]+strings.Repeat("\x00", 5)+held+"\x00\x00")
	}
	note := strings.Repeat("n", api.MaxNote)
	forms(t, "a note of MaxNote bytes", api.OK, "", records[0], heldRecord(txid(1, 1), api.Batch{}, note))
	forms(t, "a note of more", api.ErrForm, "", records[0], heldRecord(txid(1, 1), api.Batch{}, note+"n"))
}

// TestOpenOrder: records that no store writes behind those ahead of them.
func TestOpenOrder(t *testing.T) {
	records, _ := history(t)
	begin := records[0]
	held := func(life, n uint64) string { return heldRecord(txid(life, n), api.Batch{}, "") }
	yes, no, refuse, low, own := "\x04\x02\x02\x01", "\x04\x02\x02\x00", "\x03\x02\x02", "\x05\x02\x02", "\x06\x02\x00"
	for _, x := range []struct {
		about   string
		records []string
		want    api.Errno
	}{
		{"each once", []string{own, begin, held(2, 2), yes, "\x03\x02\x03", low}, api.OK},
		{"prepared, not begun", []string{held(2, 2)}, api.ErrForm},
		{"prepared twice", []string{begin, held(2, 2), held(2, 2)}, api.ErrForm},
		{"prepared and committed, then prepared", []string{begin, held(2, 2), yes, held(2, 2)}, api.ErrForm},
		{"prepared and aborted, then prepared", []string{begin, held(2, 2), no, held(2, 2)}, api.ErrForm},
		{"refused, then prepared", []string{begin, refuse, held(2, 2)}, api.ErrForm},
		{"below the low one, then prepared", []string{begin, low, held(2, 1)}, api.ErrForm},
		{"the low one, then prepared", []string{begin, low, held(2, 2)}, api.OK},
		{"prepared, then below the low one, then decided", []string{begin, held(2, 2), "\x05\x02\x03", yes}, api.OK},
		{"prepared, then refused", []string{begin, held(2, 2), refuse}, api.ErrForm},
		{"committed, then refused", []string{begin, held(2, 2), yes, refuse}, api.ErrForm},
		{"aborted, then refused", []string{begin, held(2, 2), no, refuse}, api.ErrForm},
		{"refused twice", []string{refuse, refuse}, api.ErrForm},
		{"below the low one, then refused", []string{low, "\x03\x02\x01"}, api.ErrForm},
		{"the low one, then refused", []string{low, refuse}, api.OK},
		{"the low one twice", []string{low, low}, api.ErrForm},
		{"a lower one", []string{low, "\x05\x01\x03"}, api.ErrForm},
		{"the lowest of all", []string{"\x05\x00\x00"}, api.ErrForm},
		{"a map twice", []string{own, own}, api.ErrForm},
		{"a map of epoch 0", []string{"\x06\x00\x00"}, api.ErrForm},
		{"a map of a lower epoch, behind a batch's", []string{begin, heldRecord(txid(2, 2), api.Batch{Map: 3}, ""), yes, own}, api.ErrForm},
		{"a map of a higher epoch, behind a batch's", []string{begin, "\x06\x09\x00", heldRecord(txid(2, 2), api.Batch{Map: 1}, ""), yes, own}, api.OK},
		{"a header again", []string{begin, begin}, api.OK},
	} {
		forms(t, x.about, x.want, "", x.records...)
	}
}

// TestOpenCheckpoint: checkpoints that no store writes, though each piece of them may be.
func TestOpenCheckpoint(t *testing.T) {
	records, _ := history(t)
	header := headerOf(t, records[0])
	e := closedOf(0)
	// text is a checkpoint's, of a header, with the low one 2 2.
	text := func(header string, epoch uint64, own []api.Range, rows []api.Row, held []uint64, yes, no []api.Txid) string {
		s := wire.Texts(header) + wire.Uints(2, 2, epoch) + rangesBytes(own) + rowsBytes(rows) + wire.Uints(uint64(len(held)))
		for _, n := range held {
			s += heldBytes(api.Held{Id: txid(2, n)})
		}
		return s + idsBytes(yes) + idsBytes(no)
	}
	ids := func(l ...uint64) []api.Txid {
		var m []api.Txid
		for _, n := range l {
			m = append(m, txid(2, n))
		}
		return m
	}
	two := []api.Row{row("a", e), row("b", e)}
	for _, x := range []struct {
		about string
		text  string
		want  api.Errno
	}{
		{"all of it", text(header, 1, []api.Range{all}, two, []uint64{1, 3, 4}, ids(2, 5, 6), ids(7, 8)), api.OK},
		{"no header", text("", 1, nil, nil, nil, nil, ids(7)), api.OK},
		{"a header that is none", text(header[:40], 1, nil, nil, nil, nil, nil), api.ErrForm},
		{"rows, not begun", text("", 1, nil, two, nil, nil, nil), api.ErrForm},
		{"one that is prepared, not begun", text("", 1, nil, nil, []uint64{3}, nil, nil), api.ErrForm},
		{"no map", text(header, 0, nil, nil, nil, nil, nil), api.OK},
		{"ranges of no map", text(header, 0, []api.Range{all}, nil, nil, nil, nil), api.ErrForm},
		{"a range that is turned", text(header, 1, []api.Range{{From: 1}}, nil, nil, nil, nil), api.ErrForm},
		{"rows that do not rise", text(header, 1, nil, []api.Row{two[1], two[0]}, nil, nil, nil), api.ErrForm},
		{"a row twice", text(header, 1, nil, []api.Row{two[0], two[0]}, nil, nil, nil), api.ErrForm},
		{"a row of what is no envelope", text(header, 1, nil, []api.Row{row("a", e[1:])}, nil, nil, nil), api.ErrForm},
		{"a row without a version", text(header, 1, nil, []api.Row{{Path: "a"}}, nil, nil, nil), api.ErrForm},
		{"prepared ones that do not rise", text(header, 1, nil, nil, []uint64{4, 3}, nil, nil), api.ErrForm},
		{"one that is prepared twice", text(header, 1, nil, nil, []uint64{3, 3}, nil, nil), api.ErrForm},
		{"committed ones that do not rise", text(header, 1, nil, nil, nil, ids(4, 3), nil), api.ErrForm},
		{"one that is committed twice", text(header, 1, nil, nil, nil, ids(3, 3), nil), api.ErrForm},
		{"one that is committed, and below the low one", text(header, 1, nil, nil, nil, ids(1), nil), api.ErrForm},
		{"refused ones that do not rise", text(header, 1, nil, nil, nil, nil, ids(4, 3)), api.ErrForm},
		{"one that is refused, and below the low one", text(header, 1, nil, nil, nil, nil, ids(1)), api.ErrForm},
		{"one that is prepared and committed", text(header, 1, nil, nil, []uint64{3}, ids(3), nil), api.ErrForm},
		{"one that is prepared and refused", text(header, 1, nil, nil, []uint64{3}, nil, ids(3)), api.ErrForm},
		{"one that is committed and refused", text(header, 1, nil, nil, nil, ids(3), ids(3)), api.ErrForm},
	} {
		forms(t, "a checkpoint of "+x.about, x.want, x.text)
	}
}

// TestOpenReserves: with a log that has no room for all decisions.
func TestOpenReserves(t *testing.T) {
	c := large
	c.Wal.Size = 1000
	s, d := begun(t, c)
	for i := range uint64(10) {
		prepares(t, s, txid(1, i), edits())
	}
	used := 18
	for _, one := range kept(t, d, c).Records {
		used += 16 + len(one)
	}
	for _, more := range []int{-1, 0, 1} {
		small := c
		small.Wal.Check = 1<<20 - used - 960 - more
		is(t, "Crash", d.Crash(-1, 0), api.OK)
		s, err := store.Open(d, small)
		if more < 0 {
			is(t, "P19.1 Open with a byte less than what is reserved", err, api.ErrFull)
			says(t, "P19.1 a store", s != nil, false)
			continue
		}
		is(t, "P19.1 Open with what is reserved", err, api.OK)
		for i := range uint64(10) {
			is(t, "P19.4 Decide", s.Decide(txid(1, i), false), api.OK)
		}
		d = laid(t, c, "", kept(t, d, c).Records[:11]...)
	}
}

// P19.2

// headerOf is the header that a store's record has.
func headerOf(t *testing.T, record string) string {
	t.Helper()
	r := wire.New(record)
	n, header := r.Uint(1), r.Text(1<<16)
	if n != 1 || r.End() != api.OK {
		t.Errorf("P19.2 no header's record: %q", record)
	}
	return header
}

// TestBegin: the header is there behind a crash, and its shares open it; the nonce is the draw's, of place 63.
func TestBegin(t *testing.T) {
	s, d := made(t, large)
	is(t, "P19.2 Own", s.Own(1), api.OK)
	l, err := s.Begin(root, key(0), draw(0), other, key(7))
	is(t, "P19.2 Begin", err, api.OK)
	x, _ := word.Xor(root, other)
	x, _ = word.Xor(x, key(7))
	says(t, "P19.2 Begin: shares", l, []string{"\x01\x03" + other, "\x02\x03" + key(7), "\x03\x03" + x})
	says(t, "P19.2 Begin: state", s.State(), api.BarOpen)
	records := kept(t, d, large).Records
	says(t, "P19.2 Begin: records", len(records), 2)
	header := headerOf(t, records[1])
	says(t, "P19.2 Begin: the header's head", header[:18], "\x03\x01\x00\x00\x00\x01"+nonceOf(draw(0), 2, 63))
	says(t, "P19.2 Begin: loose", d.Loose(), 0)
	s = again(t, d, large)
	says(t, "P19.2 Begin, behind a crash: state", s.State(), api.BarSealed)
	for i, share := range []string{l[2], l[0], l[1]} {
		open, err := s.Unseal(share)
		if open != (i == 2) || err != api.OK {
			t.Errorf("P19.2 Unseal of share %d: %v, %v", i, open, err)
		}
	}
	says(t, "P19.2 Begin, behind a crash and all shares: state", s.State(), api.BarOpen)
	commits(t, s, txid(1, 1), edits(put("a", "b")))
	reads(t, "P19.2 behind that", s, "a", 0, live(1, "b"), api.OK)
}

// TestBeginWrong: the barrier's errors, at which nothing is written, or begun.
func TestBeginWrong(t *testing.T) {
	s, d := made(t, large)
	was := filesOf(d)
	for _, x := range []struct {
		root, key, nonce string
		texts            []string
	}{
		{root[:31], key(0), draw(0), nil}, {root + "x", key(0), draw(0), nil}, {"", key(0), draw(0), nil},
		{root, key(0)[:31], draw(0), nil}, {root, key(0) + "x", draw(0), nil},
		{root, key(0), draw(0)[:11], nil}, {root, key(0), draw(0) + "x", nil}, {root, key(0), "", nil},
		{root, key(0), draw(0), []string{other[:31]}}, {root, key(0), draw(0), slices.Repeat([]string{other}, 16)},
	} {
		l, err := s.Begin(x.root, x.key, x.nonce, x.texts...)
		is(t, fmt.Sprintf("P19.2 Begin of %d, %d, %d bytes, %d texts", len(x.root), len(x.key), len(x.nonce), len(x.texts)), err, api.ErrArg)
		says(t, "P19.2 Begin that is refused: shares", len(l), 0)
	}
	isEmpty(t, "P19.2 Begin that was refused", s)
	says(t, "P19.2 Begin that was refused: files", filesOf(d), was)
	s, d = begun(t, large)
	was = filesOf(d)
	for _, state := range []uint8{api.BarOpen, api.BarSealed} {
		says(t, "P19.2 state", s.State(), state)
		l, err := s.Begin(root, key(0), draw(0))
		is(t, "P19.2 Begin twice", err, api.ErrState)
		says(t, "P19.2 Begin twice: shares", len(l), 0)
		_, err = s.Begin("", "", "")
		is(t, "P19.2 Begin twice, of what may not be", err, api.ErrState)
		s.Seal()
	}
	says(t, "P19.2 Begin twice: files", filesOf(d), was)
}

// TestHeaderUnwritten: what keeps a header from being written is told; and nothing more is written then.
func TestHeaderUnwritten(t *testing.T) {
	c := large
	c.Wal = api.WalConf{Files: 2, Size: 64, Check: 4000}
	s, d := made(t, c)
	l, err := s.Begin(root, key(0), draw(0))
	is(t, "P19.2 Begin without room", err, api.ErrFull)
	says(t, "P19.2 Begin without room: shares", len(l), 0)
	is(t, "P19.2 Own behind it", s.Own(1), api.ErrState)
	is(t, "P19.4 Refuse behind it", s.Refuse(txid(1, 1)), api.ErrState)
	is(t, "P19.4 Low behind it", s.Low(txid(1, 1)), api.ErrState)
	is(t, "P19.6 Checkpoint behind it", s.Checkpoint(), api.ErrState)
	says(t, "P19.2 Begin without room: records", len(kept(t, d, c).Records), 0)
	isEmpty(t, "P19.2 Begin without room, opened again", again(t, d, c))

	c.Wal.Size = 290
	s, d = begun(t, c)
	is(t, "P19.2 Own", s.Own(1, all), api.OK)
	epoch, err := s.Rotate(key(1), draw(1))
	is(t, "P19.2 Rotate without room", err, api.ErrFull)
	says(t, "P19.2 Rotate without room: epoch", epoch, 0)
	_, _, err = s.Prepare(txid(1, 1), edits(), "", draw(1))
	is(t, "P19.3 Prepare behind it", err, api.ErrState)
	_, err = s.Rotate(key(1), draw(1))
	is(t, "P19.2 Rotate behind it", err, api.ErrState)
	is(t, "P19.2 Own behind it", s.Own(2), api.ErrState)
	is(t, "P19.6 Checkpoint behind it", s.Checkpoint(), api.ErrState)
	s = again(t, d, c)
	opens(t, s)
	is(t, "P19.6 Checkpoint, opened again", s.Checkpoint(), api.OK)
	epoch, err = s.Rotate(key(1), draw(1))
	is(t, "P19.2 Rotate, opened again", err, api.OK)
	says(t, "P19.2 Rotate, opened again: epoch", epoch, 2)
}

// TestRotate: what was put by each key is read behind a crash; the nonce is the draw's, of place 63.
func TestRotate(t *testing.T) {
	s, d := begun(t, large)
	want := uint64(1)
	for i := range 6 {
		path := fmt.Sprint("p", i)
		commits(t, s, txid(1, uint64(i)), edits(put(path, "text of "+path)))
		epoch, err := s.Rotate(key(i+1), draw(i))
		is(t, "P19.2 Rotate", err, api.OK)
		says(t, "P19.2 Rotate: epoch", epoch, i+2)
		want += 3
		records := kept(t, d, large).Records
		header := headerOf(t, records[len(records)-1])
		says(t, "P19.2 Rotate: the header's head", header[:18], "\x01\x01\x00\x00\x00\x01"+nonceOf(draw(i), want, 63))
		if s = again(t, d, large); s.State() != api.BarSealed {
			t.Errorf("P19.2 Rotate, behind a crash: state %d", s.State())
		}
		opens(t, s)
		for j := range i + 1 {
			path := fmt.Sprint("p", j)
			reads(t, "P19.2 behind a Rotate", s, path, 1, live(1, "text of "+path), api.OK)
		}
	}
	for i, h := range []string{"p0", "p3", "p5"} {
		text := kept(t, d, large).Records[1+3*[]int{0, 3, 5}[i]]
		at := strings.Index(text, h) + len(h)
		e, err := seal.Epoch(text[at+4 : at+4+seal.Size(len("text of p0"))])
		says(t, "P19.2 the epoch that puts", fmt.Sprint(e, err), fmt.Sprint([]int{1, 4, 6}[i], api.OK))
	}
}

// TestRotateWrong: the barrier's errors, at which nothing is written.
func TestRotateWrong(t *testing.T) {
	s, d := made(t, large)
	refuses := func(about string, key, nonce string, want api.Errno) {
		t.Helper()
		was := filesOf(d)
		epoch, err := s.Rotate(key, nonce)
		is(t, "P19.2 Rotate, "+about, err, want)
		says(t, "P19.2 Rotate, "+about+": epoch", epoch, 0)
		says(t, "P19.2 Rotate, "+about+": files", filesOf(d), was)
	}
	refuses("not begun", key(1), draw(1), api.ErrState)
	refuses("not begun, and a key that is none", "", "", api.ErrState)
	s, d = begun(t, large)
	refuses("a key that is none", key(1)[:31], draw(1), api.ErrArg)
	refuses("a draw that is none", key(1), draw(1)[:11], api.ErrArg)
	refuses("a draw that is none", key(1), draw(1)+"x", api.ErrArg)
	for i := range api.MaxEpochs - 1 {
		if epoch, err := s.Rotate(key(i), draw(i)); int(epoch) != i+2 || err != api.OK {
			t.Fatalf("P19.2 Rotate: %d, %v, want %d", epoch, err, i+2)
		}
	}
	refuses("of a ring that is full", key(1), draw(1), api.ErrFull)
	is(t, "P19.2 Own behind that", s.Own(1, all), api.OK)
	is(t, "P19.2 Seal", s.Seal(), api.OK)
	refuses("sealed", key(1), draw(1), api.ErrSealed)
	refuses("sealed, and a key that is none", "", "", api.ErrSealed)
}

// TestUnseal: too few shares, and wrong ones.
func TestUnseal(t *testing.T) {
	s, _ := made(t, large)
	unseals := func(about, share string, want bool, e api.Errno) {
		t.Helper()
		open, err := s.Unseal(share)
		if open != want || err != e {
			t.Errorf("P19.2 Unseal, %s: %v, %v, want %v, %v", about, open, err, want, e)
		}
	}
	unseals("not begun", "\x01\x01"+root, false, api.ErrState)
	is(t, "P19.2 Seal, not begun", s.Seal(), api.ErrState)
	l, err := s.Begin(root, key(0), draw(0), other)
	is(t, "P19.2 Begin", err, api.OK)
	unseals("open", l[0], false, api.ErrState)
	is(t, "P19.2 Seal", s.Seal(), api.OK)
	is(t, "P19.2 Seal twice", s.Seal(), api.ErrState)
	unseals("what is no share", "", false, api.ErrForm)
	unseals("a share of three", "\x01\x03"+root, false, api.ErrOther)
	unseals("a share of another length", "\x01\x02"+root[:31], false, api.ErrOther)
	unseals("one of two", l[1], false, api.OK)
	says(t, "P19.2 one share of two: state", s.State(), api.BarSealed)
	unseals("the same again", l[1], false, api.ErrHave)
	unseals("a wrong one", "\x01\x02"+root, false, api.ErrTag)
	says(t, "P19.2 a wrong share: state", s.State(), api.BarSealed)
	unseals("one of two", l[0], false, api.OK)
	is(t, "P19.2 Seal, sealed", s.Seal(), api.ErrState)
	unseals("both", l[1], true, api.OK)
	says(t, "P19.2 both shares: state", s.State(), api.BarOpen)
}

// TestSealWritesNothing: nor does Unseal.
func TestSealWritesNothing(t *testing.T) {
	s, d := begun(t, large)
	was := filesOf(d)
	d.Fuse(0)
	for range 3 {
		is(t, "P19.2 Seal", s.Seal(), api.OK)
		opens(t, s)
	}
	says(t, "P19.2 Seal, Unseal: files", filesOf(d), was)
	is(t, "P19.2 Down", s.Down(), api.OK)
}

// TestOwn: what may be its own, and what may not.
func TestOwn(t *testing.T) {
	s, d := made(t, large)
	ranges := func(l ...api.Range) []api.Range { return l }
	for _, x := range []struct {
		epoch uint64
		l     []api.Range
		want  api.Errno
	}{
		{0, nil, api.ErrArg},
		{0, ranges(all), api.ErrArg},
		{1, nil, api.OK},
		{1, nil, api.ErrArg},
		{1, ranges(all), api.ErrArg},
		{2, ranges(all), api.OK},
		{1, ranges(all), api.ErrArg},
		{3, ranges(api.Range{From: 1}), api.ErrArg},
		{3, ranges(all, api.Range{From: 1 << 63, To: 1<<63 - 1}), api.ErrArg},
		{3, ranges(api.Range{From: 1, To: 0}, all), api.ErrArg},
		{2, ranges(api.Range{From: 1}), api.ErrArg},
		{3, ranges(api.Range{}), api.OK},
		{300, ranges(api.Range{From: 5, To: 5}, api.Range{From: 1<<64 - 1, To: 1<<64 - 1}), api.OK},
		{301, ranges(all, all, api.Range{From: 3, To: 4}), api.OK},
		{302, nil, api.OK},
		{1<<64 - 1, ranges(all), api.OK},
		{1<<64 - 1, nil, api.ErrArg},
		{0, nil, api.ErrArg},
	} {
		epoch, own := s.Owned()
		was := filesOf(d)
		is(t, fmt.Sprint("P19.2 Own ", x.epoch, x.l), s.Own(x.epoch, x.l...), x.want)
		if x.want == api.OK {
			epoch, own = x.epoch, x.l
			says(t, "P19.2 Own: loose", d.Loose(), 0)
		} else {
			says(t, "P19.2 Own that is refused: files", filesOf(d), was)
		}
		for range 2 {
			gotEpoch, got := s.Owned()
			says(t, fmt.Sprint("P19.2 Owned behind ", x.epoch, x.l), fmt.Sprint(gotEpoch, slices.Concat(got)), fmt.Sprint(epoch, slices.Concat(own)))
			s = again(t, d, large)
		}
	}
}

// TestHas: paths whose places are a range's first, its last, ahead of it and behind it.
func TestHas(t *testing.T) {
	s, d := made(t, large)
	epoch := uint64(0)
	has := func(path string, want bool, l ...api.Range) {
		t.Helper()
		epoch++
		is(t, "P19.2 Own", s.Own(epoch, l...), api.OK)
		if s.Has(path) != want {
			t.Errorf("P19.2 Has(%q) of %v: %v", path, l, !want)
		}
	}
	if s.Has("a") {
		t.Error("P19.2 Has of one without ranges")
	}
	at := placeOf("app/db") // 24c7bc697ada8962, worked out elsewhere
	says(t, "a place", at, uint64(0x24c7bc697ada8962))
	far := api.Range{From: 1, To: 2}
	has("app/db", false)
	has("app/db", true, all)
	has("app/db", true, api.Range{From: at, To: at})
	has("app/db", true, api.Range{From: at, To: at + 9})
	has("app/db", true, api.Range{From: at - 9, To: at})
	has("app/db", false, api.Range{From: at + 1, To: 1<<64 - 1})
	has("app/db", false, api.Range{From: 0, To: at - 1})
	has("app/db", false, api.Range{From: 0, To: at - 1}, api.Range{From: at + 1, To: 1<<64 - 1})
	has("app/db", true, far, api.Range{From: at, To: at})
	has("app/db", true, api.Range{From: at, To: at}, far)
	if s = again(t, d, large); !s.Has("app/db") || s.Has("app/dc") {
		t.Error("P19.2 Has behind a crash")
	}
}
