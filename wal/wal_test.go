package wal

import (
	"fmt"
	"math"
	"slices"
	"strings"
	"testing"

	"scrinium/api"
	"scrinium/disk"
	"scrinium/frame"
	"scrinium/segment"
	"scrinium/wire"
	"scrinium/word"
)

const (
	more  = api.SegmentMore
	begin = api.SegmentFirst
	most  = api.MaxNumber
)

// small is a conf of three files, each of which is full soon.
var small = api.WalConf{Files: 3, Size: 64, Check: 40}

// unhex is the bytes of a hex text that stands in a test.
func unhex(s string) string {
	b, is := word.Unhex(s)
	if !is {
		panic("no hex text: " + s)
	}
	return b
}

// pattern is n bytes that repeat only after 256, from one of them on.
func pattern(n, from int) string {
	b := make([]byte, n)
	for i := range b {
		b[i] = byte((i+from)*7 + 3)
	}
	return string(b)
}

// framed is the frame of a text, made by layer 10.
func framed(number uint64, text string) string {
	s, err := frame.Encode(api.Record{Number: number, Text: text})
	if err != api.OK {
		panic("no frame: " + err.Error())
	}
	return s
}

// framesOf are the frames of texts, with numbers from one on.
func framesOf(number uint64, texts ...string) string {
	s := ""
	for i, text := range texts {
		s += framed(number+uint64(i), text)
	}
	return s
}

// headOf is a segment's head by layer 11's words.
func headOf(kind uint8, gen, first uint64, text string) string {
	return framed(first, string([]byte{kind})+wire.Uints(gen)+text)
}

// is says where a call was answered something else.
func is(t *testing.T, about string, got, want api.Errno) {
	t.Helper()
	if got != want {
		t.Errorf("%s: %v, want %v", about, got, want)
	}
}

// mustDisk is a disk of so many files, with so much room.
func mustDisk(t *testing.T, files, room int) *disk.Disk {
	t.Helper()
	d, err := disk.New(files, room)
	if err != api.OK {
		t.Fatalf("no disk of %d files with room for %d: %v", files, room, err)
	}
	return d
}

// diskOf is a disk whose files have these bytes for good, with so much room beside them.
func diskOf(t *testing.T, room int, files ...string) *disk.Disk {
	t.Helper()
	d := mustDisk(t, len(files), room+len(strings.Join(files, "")))
	for i, s := range files {
		if s != "" {
			is(t, "a file's bytes", d.Write(i, s), api.OK)
		}
	}
	is(t, "a disk's Sync", d.Sync(), api.OK)
	return d
}

// mustMake is a log that Make made.
func mustMake(t *testing.T, d *disk.Disk, c api.WalConf, text string) *Wal {
	t.Helper()
	w, err := Make(d, c, text)
	if w == nil || err != api.OK {
		t.Fatalf("P12.1 Make(%+v, %.20q): %v", c, text, err)
	}
	return w
}

// made is a log of a disk of its own with just the files that its conf has.
func made(t *testing.T, c api.WalConf, room int, text string) (*Wal, *disk.Disk) {
	t.Helper()
	d := mustDisk(t, c.Files, room)
	return mustMake(t, d, c, text), d
}

// mustOpen is the log that a disk has.
func mustOpen(t *testing.T, d *disk.Disk, c api.WalConf) *Wal {
	t.Helper()
	w, _, err := Open(d, c)
	if w == nil || err != api.OK {
		t.Fatalf("P12.2 Open(%+v): %v", c, err)
	}
	return w
}

// filesOf are the bytes of a disk's files, also of one that stands still.
func filesOf(d *disk.Disk) []string {
	c := d.Copy()
	c.Fuse(-1)
	l := make([]string, c.Files())
	for i := range l {
		l[i], _ = c.Read(i)
	}
	return l
}

// shows says where a disk's files have other bytes, or another number of calls is loose.
func shows(t *testing.T, about string, d *disk.Disk, loose int, want ...string) {
	t.Helper()
	if got := filesOf(d); !slices.Equal(got, want) {
		t.Errorf("%s: the files have %x, want %x", about, got, want)
	}
	if d.Loose() != loose {
		t.Errorf("%s: %d calls are loose, want %d", about, d.Loose(), loose)
	}
}

// tells says where a log tells other numbers, or another error by which it is down.
func tells(t *testing.T, about string, w *Wal, first, next uint64, room, reserved int, down api.Errno) {
	t.Helper()
	if w.First() != first || w.Next() != next || w.Room() != room || w.Reserved() != reserved || w.Down() != down {
		t.Errorf("%s: first %d, next %d, room %d, reserved %d, %v; want %d, %d, %d, %d, %v", about, w.First(), w.Next(), w.Room(), w.Reserved(), w.Down(), first, next, room, reserved, down)
	}
}

// appends says where Append is answered something else.
func appends(t *testing.T, about string, w *Wal, use int, l []string, want uint64, e api.Errno) {
	t.Helper()
	if n, err := w.Append(use, l...); n != want || err != e {
		t.Errorf("%s: Append(%d) of %d records: %d, %v, want %d, %v", about, use, len(l), n, err, want, e)
	}
}

// opens says where Open finds something else.
func opens(t *testing.T, about string, d *disk.Disk, c api.WalConf, text string, first uint64, records ...string) *Wal {
	t.Helper()
	w, k, err := Open(d, c)
	if w == nil || err != api.OK || k.Text != text || k.First != first || !slices.Equal(k.Records, records) {
		t.Fatalf("%s: %.40q, from %d on %.60q, %v, want %.40q, from %d on %.60q", about, k.Text, k.First, k.Records, err, text, first, records)
	}
	if w.First() != first || w.Next() != first+uint64(len(records)) || w.Reserved() != 0 || w.Down() != api.OK {
		t.Errorf("%s: first %d, next %d, reserved %d, %v", about, w.First(), w.Next(), w.Reserved(), w.Down())
	}
	return w
}

// refuses says where Open answers another error, or something beside it.
func refuses(t *testing.T, about string, d *disk.Disk, c api.WalConf, want api.Errno) {
	t.Helper()
	if w, k, err := Open(d, c); w != nil || k.Text != "" || k.First != 0 || len(k.Records) > 0 || err != want {
		t.Errorf("%s: Open: %v, %+v, %v, want none, %v", about, w != nil, k, err, want)
	}
}

// unmade says where Make answers another error, or a log beside it.
func unmade(t *testing.T, about string, d *disk.Disk, c api.WalConf, text string, want api.Errno) {
	t.Helper()
	if w, err := Make(d, c, text); w != nil || err != want {
		t.Errorf("%s: Make: %v, %v, want none, %v", about, w != nil, err, want)
	}
}

// calls is how many calls of a disk something makes that burn a fuse.
func calls(d *disk.Disk, do func()) int {
	d.Fuse(1000)
	do()
	c, left := d.Copy(), 0
	for c.Sync() == api.OK {
		left++
	}
	d.Fuse(-1)
	return 1000 - left
}

// wrongConfs are such as may not be, a step beyond a bound, or far beyond it.
func wrongConfs() []api.WalConf {
	var l []api.WalConf
	for _, n := range []int{math.MinInt, -1, 0, 1, api.MaxFiles + 1, 256 + 2, 1<<32 + 2, math.MaxInt} {
		l = append(l, api.WalConf{Files: n, Size: 64, Check: 32})
	}
	for _, n := range []int{math.MinInt, -1, 0, 63, api.MaxRoom + 1, 1<<32 + 64, math.MaxInt} {
		l = append(l, api.WalConf{Files: 2, Size: n, Check: 32})
	}
	for _, n := range []int{math.MinInt, -1, 0, 31, api.MaxRoom + 1, 1<<32 + 32, math.MaxInt} {
		l = append(l, api.WalConf{Files: 2, Size: 64, Check: n})
	}
	return append(l, api.WalConf{}, api.WalConf{Files: 17, Size: 63, Check: 31})
}

// P12.1

func TestMay(t *testing.T) {
	for _, files := range []int{2, 3, 15, api.MaxFiles} {
		for _, size := range []int{64, 65, 4096, api.MaxRoom - 1, api.MaxRoom} {
			for _, check := range []int{32, 33, 4096, api.MaxRoom - 1, api.MaxRoom} {
				if c := (api.WalConf{Files: files, Size: size, Check: check}); !May(c) {
					t.Errorf("P12.1 May(%+v): false", c)
				}
			}
		}
	}
	for _, c := range wrongConfs() {
		if May(c) {
			t.Errorf("P12.1 May(%+v): true", c)
		}
	}
}

// TestMakeKnown: the bytes were worked out elsewhere.
func TestMakeKnown(t *testing.T) {
	d := mustDisk(t, 3, 1000)
	var w *Wal
	if n := calls(d, func() { w = mustMake(t, d, small, "a") }); n != 2 {
		t.Errorf("P12.1 Make on a disk that is free: %d calls, want 2", n)
	}
	shows(t, "P12.1 Make", d, 0, unhex("0000000300000000000000013a9dbcca010161"), "", "")
	tells(t, "P12.1 Make", w, 1, 1, 128-19, 0, api.OK)
	opens(t, "P12.1 Make", d, small, "a", 1)
}

// TestMakeEachConf: at each bound of what may be, on disks with more and less room.
func TestMakeEachConf(t *testing.T) {
	for _, c := range []api.WalConf{
		{Files: 2, Size: 64, Check: 32}, {Files: api.MaxFiles, Size: api.MaxRoom, Check: api.MaxRoom}, {Files: 2, Size: api.MaxRoom, Check: 32},
		{Files: api.MaxFiles, Size: 64, Check: 32}, {Files: 3, Size: 100, Check: api.MaxRoom}, {Files: api.MaxFiles, Size: api.MaxRoom, Check: 32},
	} {
		for _, room := range []int{19, 51, 52, 83, 84, 2000, api.MaxRoom} {
			w, d := made(t, c, room, "a")
			want := max(min((c.Files-1)*c.Size-19, room-19-c.Check), 0)
			tells(t, fmt.Sprintf("P12.1 Make of %+v with room %d", c, room), w, 1, 1, want, 0, api.OK)
			opens(t, "P12.1 Make", d, c, "a", 1)
		}
	}
}

// noDisks are such as disk.New did not make.
func noDisks() []*disk.Disk { return []*disk.Disk{nil, {}, new(disk.Disk)} }

// TestNoDisk: it is told ahead of all else.
func TestNoDisk(t *testing.T) {
	for _, d := range noDisks() {
		for _, c := range append(wrongConfs(), small) {
			unmade(t, "P12.1 no disk", d, c, "", api.ErrNil)
			unmade(t, "P12.1 no disk", d, c, pattern(api.MaxRecord+1, 0), api.ErrNil)
			refuses(t, "P12.2 no disk", d, c, api.ErrNil)
		}
	}
}

// TestConfWrong: a conf that may not be, or a disk of another number of files; told ahead of what else is wrong, and nothing is done.
func TestConfWrong(t *testing.T) {
	long := pattern(api.MaxRecord+1, 0)
	whole := headOf(begin, 1, 1, "abc")
	refused := func(d *disk.Disk, c api.WalConf) {
		t.Helper()
		about := fmt.Sprintf("%+v of a disk of %d files", c, d.Files())
		was := filesOf(d)
		for _, fuse := range []int{-1, 0} {
			is(t, "Fuse", d.Fuse(fuse), api.OK)
			unmade(t, "P12.1 "+about, d, c, "", api.ErrArg)
			unmade(t, "P12.1 "+about, d, c, long, api.ErrArg)
			refuses(t, "P12.2 "+about, d, c, api.ErrArg)
			shows(t, "P12.1 "+about, d, 0, was...)
		}
	}
	for _, c := range wrongConfs() {
		refused(diskOf(t, 1000, whole, "xyz"), c)
		refused(diskOf(t, 0, whole, "xyz", ""), c)
	}
	for files := 1; files <= api.MaxFiles; files++ {
		for _, n := range []int{2, 3, files - 1, files + 1, api.MaxFiles} {
			if c := (api.WalConf{Files: n, Size: 64, Check: 32}); n != files && n >= 2 && n <= api.MaxFiles {
				all := make([]string, files)
				all[0] = whole
				refused(diskOf(t, 1000, all...), c)
			}
		}
	}
}

// TestMakeLong: a head has at most Check bytes, and its text at most those that a record may have; told ahead of a disk that stands still, or has no room.
func TestMakeLong(t *testing.T) {
	for _, check := range []int{32, 33, 100, 5000} {
		c := api.WalConf{Files: 2, Size: 64, Check: check}
		just := pattern(check-18, 0)
		w, d := made(t, c, check, just)
		shows(t, "P12.1 Make of just Check bytes", d, 0, headOf(begin, 1, 1, just), "")
		tells(t, "P12.1 Make of just Check bytes", w, 1, 1, 0, 0, api.OK)
		for _, d := range []*disk.Disk{diskOf(t, 1<<20, "xyz", ""), diskOf(t, 0, "", "xyz")} {
			was := filesOf(d)
			for _, fuse := range []int{-1, 0} {
				is(t, "Fuse", d.Fuse(fuse), api.OK)
				unmade(t, "P12.1 a byte more than Check", d, c, just+"x", api.ErrLong)
				unmade(t, "P12.1 far more than Check", d, c, pattern(api.MaxRecord+1, 0), api.ErrLong)
				shows(t, "P12.1 refused", d, 0, was...)
			}
		}
	}
	c := api.WalConf{Files: 2, Size: 64, Check: api.MaxRoom}
	just := pattern(api.MaxRecord-2, 0)
	_, d := made(t, c, 1<<17, just)
	shows(t, "P12.1 Make of the longest head", d, 0, headOf(begin, 1, 1, just), "")
	unmade(t, "P12.1 a head that is longer than may be", d, c, just+"x", api.ErrLong)
	shows(t, "P12.1 refused", d, 0, headOf(begin, 1, 1, just), "")
}

// TestMakeDown: told ahead of a disk that has no room.
func TestMakeDown(t *testing.T) {
	for _, room := range []int{0, 5, 1000} {
		d := diskOf(t, room, "xy", "", "z")
		is(t, "Fuse", d.Fuse(0), api.OK)
		unmade(t, "P12.1 a disk that stands still", d, small, "a", api.ErrDown)
		refuses(t, "P12.2 a disk that stands still", d, small, api.ErrDown)
		shows(t, "P12.1 a disk that stands still", d, 0, "xy", "", "z")
	}
}

// TestMakeFull: a head that has just the room that is there, and one more; what the files have goes.
func TestMakeFull(t *testing.T) {
	head := headOf(begin, 1, 1, "abcd")
	for _, files := range [][]string{{"", "", ""}, {"xyz", "", ""}, {"", "", pattern(22, 0)}, {pattern(7, 0), pattern(8, 0), pattern(7, 1)}, {"a", "b", "c"}, {headOf(begin, 7, 7, ""), "", ""}} {
		had := len(strings.Join(files, ""))
		d := diskOf(t, len(head)-had, files...)
		mustMake(t, d, small, "abcd")
		shows(t, "P12.1 Make of just the room", d, 0, head, "", "")
		d = diskOf(t, len(head)-had, files...)
		unmade(t, "P12.1 Make of a byte more than the room", d, small, "abcde", api.ErrFull)
		shows(t, "P12.1 Make of a byte more than the room", d, 0, files...)
	}
	unmade(t, "P12.1 Make without any room", mustDisk(t, 3, 0), small, "", api.ErrFull)
	unmade(t, "P12.1 Make with a byte less than a head's", mustDisk(t, 3, 17), small, "", api.ErrFull)
	mustMake(t, mustDisk(t, 3, 18), small, "")
}

// TestMakeOverFiles: call by call, up to the first error of the disk.
func TestMakeOverFiles(t *testing.T) {
	head := headOf(begin, 1, 1, "abc")
	old := headOf(begin, 9, 9, "old") + framesOf(9, "x", "y")
	for _, files := range [][]string{
		{"", "", ""}, {"a", "", ""}, {"", "b", ""}, {"", "", "c"}, {"a", "b", ""}, {"a", "", "c"}, {"a", "b", "c"},
		{old, headOf(more, 9, 11, ""), ""}, {"", old, "torn"}, {headOf(begin, 1, 1, "abc"), old, old},
	} {
		// What the files are behind each call, and what is loose then.
		steps := [][]string{files}
		loose := []int{0}
		for i, s := range files {
			if s != "" {
				row := slices.Clone(steps[len(steps)-1])
				row[i] = ""
				steps, loose = append(steps, row), append(loose, len(steps))
			}
		}
		if len(steps) > 1 {
			steps, loose = append(steps, []string{"", "", ""}), append(loose, 0)
		}
		steps, loose = append(steps, []string{head, "", ""}, []string{head, "", ""}), append(loose, 1, 0)
		for fuse := range steps {
			d := diskOf(t, 1000, files...)
			is(t, "Fuse", d.Fuse(fuse), api.OK)
			about := fmt.Sprintf("P12.1 Make over %.40q, with a fuse of %d", files, fuse)
			if fuse < len(steps)-1 {
				unmade(t, about, d, small, "abc", api.ErrDown)
			} else {
				w := mustMake(t, d, small, "abc")
				tells(t, about, w, 1, 1, 128-len(head), 0, api.OK)
				is(t, about+": a call more", d.Sync(), api.ErrDown)
				d.Fuse(-1)
				opens(t, about, d.Copy(), small, "abc", 1)
			}
			shows(t, about, d, loose[fuse], steps[fuse]...)
		}
	}
}

// P12.2

func TestOpenNothing(t *testing.T) {
	for _, files := range [][]string{
		{"", "", ""}, {"abc", "", "xyz"}, {headOf(begin, 1, 1, "abc")[:20], "", ""}, {headOf(more, 1, 1, ""), headOf(more, 2, 5, ""), ""},
		{framed(1, "\x01"), framed(1, "\x02\x01"), framed(0, "\x01\x01")}, {strings.Repeat("\x00", 100), "", strings.Repeat("\xff", 100)},
	} {
		d := diskOf(t, 500, files...)
		if n := calls(d, func() { refuses(t, "P12.2 no log", d, small, api.ErrNothing) }); n != 0 {
			t.Errorf("P12.2 no log: %d calls", n)
		}
		shows(t, "P12.2 no log", d, 0, files...)
	}
}

// TestOpen: logs of one segment, and of several; the last one torn, and files that are none of the log's; with what is left behind each call.
func TestOpen(t *testing.T) {
	one := headOf(begin, 3, 7, "abc")
	full := one + framesOf(7, pattern(30, 0), "b")
	second := headOf(more, 3, 9, "") + framesOf(9, pattern(40, 1))
	third := headOf(more, 3, 10, "") + framesOf(10, "d", "")
	a, b := pattern(30, 0), pattern(40, 1)
	for _, c := range []struct {
		about   string
		files   []string
		first   uint64
		records []string
		steps   [][]string // behind each call
	}{
		{"a head", []string{one, "", "", ""}, 7, nil, nil},
		{"a head in another file", []string{"", "", "", one}, 7, nil, nil},
		{"one segment", []string{"", full, "", ""}, 7, []string{a, "b"}, nil},
		{"two", []string{second, full, "", ""}, 7, []string{a, "b", b}, nil},
		{"three, in any order", []string{third, "", full, second}, 7, []string{a, "b", b, "d", ""}, nil},
		{"a second one that is a head alone", []string{full, "", headOf(more, 3, 9, ""), ""}, 7, []string{a, "b"}, nil},
		{"a torn one", []string{full + "torn", "", "", ""}, 7, []string{a, "b"}, [][]string{{full, "", "", ""}, {full, "", "", ""}}},
		{"a torn record", []string{"", "", full[:len(full)-1], ""}, 7, []string{a}, [][]string{{"", "", one + framesOf(7, a), ""}, {"", "", one + framesOf(7, a), ""}}},
		{"a torn third one", []string{third[:len(third)-1], second, full, ""}, 7, []string{a, "b", b, "d"}, [][]string{{third[:len(third)-16], second, full, ""}, {third[:len(third)-16], second, full, ""}}},
		{"a third one that is torn behind its head", []string{full, second, headOf(more, 3, 10, "") + "\x00", ""}, 7, []string{a, "b", b}, [][]string{{full, second, headOf(more, 3, 10, ""), ""}, {full, second, headOf(more, 3, 10, ""), ""}}},
		{"a third one whose head is torn", []string{full, second, third[:17], ""}, 7, []string{a, "b", b}, [][]string{{full, second, "", ""}, {full, second, "", ""}}},
		{"a torn second one, ahead of a third", []string{full, second + "x", third, ""}, 7, []string{a, "b", b}, [][]string{{full, second, third, ""}, {full, second, "", ""}, {full, second, "", ""}}},
		{"what is none of the log's", []string{"none", full, "\x00", headOf(more, 2, 9, "")}, 7, []string{a, "b"}, [][]string{{"", full, "\x00", headOf(more, 2, 9, "")}, {"", full, "", headOf(more, 2, 9, "")}, {"", full, "", ""}, {"", full, "", ""}}},
		{"elder generations", []string{headOf(begin, 2, 1, "old") + framesOf(1, "x"), headOf(more, 2, 2, ""), full, second}, 7, []string{a, "b", b}, [][]string{{"", headOf(more, 2, 2, ""), full, second}, {"", "", full, second}, {"", "", full, second}}},
		{"another one of its generation", []string{full, headOf(begin, 3, 1, "other"), headOf(more, 3, 10, ""), ""}, 7, []string{a, "b"}, [][]string{{full, "", headOf(more, 3, 10, ""), ""}, {full, "", "", ""}, {full, "", "", ""}}},
		{"torn, and others, around it", []string{"x", "y", full + "torn", "z"}, 7, []string{a, "b"}, [][]string{{"x", "y", full, "z"}, {"", "y", full, "z"}, {"", "", full, "z"}, {"", "", full, ""}, {"", "", full, ""}}},
		{"an elder one that is torn", []string{headOf(begin, 2, 1, "old") + "torn", one, "", ""}, 7, nil, [][]string{{"", one, "", ""}, {"", one, "", ""}}},
	} {
		conf := api.WalConf{Files: 4, Size: 80, Check: 40}
		about := "P12.2 Open of " + c.about
		for fuse := 1; fuse <= len(c.steps); fuse++ {
			d := diskOf(t, 500, c.files...)
			is(t, "Fuse", d.Fuse(fuse), api.OK)
			if fuse < len(c.steps) {
				refuses(t, about, d, conf, api.ErrDown)
				shows(t, fmt.Sprintf("%s, with a fuse of %d", about, fuse), d, fuse, c.steps[fuse-1]...)
			}
		}
		d := diskOf(t, 500, c.files...)
		var w *Wal
		if n := calls(d, func() { w = opens(t, about, d, conf, "abc", c.first, c.records...) }); n != len(c.steps) {
			t.Errorf("%s: %d calls, want %d", about, n, len(c.steps))
		}
		want := c.files
		if len(c.steps) > 0 {
			want = c.steps[len(c.steps)-1]
		}
		shows(t, about, d, 0, want...)
		bytes := len(strings.Join(want, ""))
		room := 3*80 - bytes
		tells(t, about, w, c.first, c.first+uint64(len(c.records)), room, 0, api.OK)
		opens(t, about+" again", d, conf, "abc", c.first, c.records...)
		// It goes on where it ended.
		appends(t, about, w, 0, []string{"more"}, c.first+uint64(len(c.records)), api.OK)
		is(t, about, w.Sync(), api.OK)
		opens(t, about+", and a record more", d, conf, "abc", c.first, append(slices.Clone(c.records), "more")...)
	}
}

// TestOpenKeepsWhatIsLoose: a log that has nothing to cut is not synced.
func TestOpenKeepsWhatIsLoose(t *testing.T) {
	w, d := made(t, small, 1000, "a")
	appends(t, "P12.3", w, 0, []string{"b"}, 1, api.OK)
	opens(t, "P12.2 Open of what is loose", d, small, "a", 1, "b")
	if d.Loose() != 1 {
		t.Errorf("P12.2 Open of what is loose: %d calls are loose, want 1", d.Loose())
	}
	is(t, "Crash", d.Crash(-1, 0), api.OK)
	opens(t, "P12.2 Open behind a crash", d, small, "a", 1)
}

// TestAnswersAreTheirOwn: no list of an answer is another one's, and what is handed in stays as it is.
func TestAnswersAreTheirOwn(t *testing.T) {
	w, d := made(t, small, 1000, "a")
	l := []string{"b", "c"}
	appends(t, "P12.3", w, 0, l, 1, api.OK)
	if !slices.Equal(l, []string{"b", "c"}) {
		t.Errorf("P12.3 Append changed its records to %q", l)
	}
	_, one, _ := Open(d, small)
	_, two, _ := Open(d, small)
	if len(one.Records) != 2 || len(two.Records) != 2 {
		t.Fatalf("P12.2 %q, %q", one.Records, two.Records)
	}
	one.Records[0] = "changed"
	_ = append(one.Records[:1], "changed")
	if !slices.Equal(two.Records, []string{"b", "c"}) {
		t.Errorf("P12.2 another answer was changed: %q", two.Records)
	}
}

// P12.3

// TestExample: the chapter's example; the bytes were worked out elsewhere.
func TestExample(t *testing.T) {
	a := unhex("0000000300000000000000013a9dbcca010161")
	bc := unhex("0000000100000000000000015a111c8962") + unhex("000000010000000000000002063b7fdc63")
	w, d := made(t, api.WalConf{Files: 2, Size: 1000, Check: 100}, 1000, "a")
	appends(t, "P12.3", w, 0, []string{"b", "c"}, 1, api.OK)
	shows(t, "P12.3 Append", d, 2, a+bc, "")
	is(t, "P12.3 Sync", w.Sync(), api.OK)
	shows(t, "P12.3 Sync", d, 0, a+bc, "")
	appends(t, "P12.3", w, 0, []string{"d"}, 3, api.OK)
	shows(t, "P12.3 Append", d, 1, a+bc+unhex("0000000100000000000000038144db3e64"), "")
	is(t, "Crash", d.Crash(-1, 0), api.OK)
	w = opens(t, "P12.6 the chapter's example", d, api.WalConf{Files: 2, Size: 1000, Check: 100}, "a", 1, "b", "c")
	is(t, "P12.4 Checkpoint", w.Checkpoint("e"), api.OK)
	e := unhex("000000030000000000000003bcd4e39b010265")
	shows(t, "P12.4 Checkpoint", d, 0, "", e)
	appends(t, "P12.3", w, 0, []string{"f"}, 3, api.OK)
	is(t, "P12.3 Sync", w.Sync(), api.OK)
	shows(t, "P12.4 behind a Checkpoint", d, 0, "", e+unhex("0000000100000000000000036f4aba1266"))
	opens(t, "P12.6 the chapter's example", d, api.WalConf{Files: 2, Size: 1000, Check: 100}, "e", 3, "f")
}

// TestAppendNextFile: the bytes were worked out elsewhere; the last file is full behind three records, and the next one that is free is not 0.
func TestAppendNextFile(t *testing.T) {
	w, d := made(t, small, 1000, "a")
	appends(t, "P12.3", w, 0, []string{"b", "c", "d", "x"}, 1, api.OK)
	first := headOf(begin, 1, 1, "a") + framesOf(1, "b", "c", "d")
	second := unhex("000000020000000000000004f9d9584c0001000000010000000000000004da0411b678")
	shows(t, "P12.3 Append to the next file", d, 4, first, second, "")
	tells(t, "P12.3 Append to the next file", w, 1, 5, 128-len(first)-len(second), 0, api.OK)
	opens(t, "P12.3 Append to the next file", d, small, "a", 1, "b", "c", "d", "x")
}

func TestAppendNothing(t *testing.T) {
	w, d := made(t, small, 1000, "a")
	is(t, "P12.5 Reserve", w.Reserve(30), api.OK)
	was := filesOf(d)
	is(t, "Fuse", d.Fuse(0), api.OK)
	for _, l := range [][]string{nil, {}} {
		appends(t, "P12.3 nothing", w, 0, l, 1, api.OK)
		appends(t, "P12.3 nothing", w, 10, l, 1, api.OK)
		appends(t, "P12.3 nothing", w, 31, l, 0, api.ErrArg)
		appends(t, "P12.3 nothing", w, -1, l, 0, api.ErrArg)
	}
	shows(t, "P12.3 nothing", d, 0, was...)
	tells(t, "P12.3 nothing", w, 1, 1, 128-19-10, 10, api.OK)
}

func TestAppendLong(t *testing.T) {
	c := api.WalConf{Files: 2, Size: api.MaxRoom, Check: 32}
	just := pattern(api.MaxRecord, 0)
	w, d := made(t, c, api.MaxRoom, "")
	appends(t, "P12.3 of MaxRecord bytes", w, 0, []string{just, "", just}, 1, api.OK)
	want := headOf(begin, 1, 1, "") + framesOf(1, just, "", just)
	for _, l := range [][]string{{just + "x"}, {"a", just + "x"}, {just + "x", "a"}, {"a", just + just, "b"}} {
		appends(t, "P12.3 of more than MaxRecord bytes", w, 0, l, 0, api.ErrLong)
		appends(t, "P12.3 of more than MaxRecord bytes, with more than is reserved", w, 1, l, 0, api.ErrArg)
		appends(t, "P12.3 of more than MaxRecord bytes, with less than 0", w, -1, l, 0, api.ErrArg)
	}
	shows(t, "P12.3 refused", d, 3, want, "")
	opens(t, "P12.3 of MaxRecord bytes", d, c, "", 1, just, "", just)
	w, _ = made(t, small, 1000, "")
	appends(t, "P12.3 too long, ahead of too much", w, 0, []string{just, just + "x"}, 0, api.ErrLong)
	tells(t, "P12.3 refused", w, 1, 1, 128-18, 0, api.OK)
}

// TestAppendFillsAFile: a file is full with Size bytes, not with one less; what goes on in the next one has a head more.
func TestAppendFillsAFile(t *testing.T) {
	head, next := headOf(begin, 1, 1, ""), headOf(more, 1, 2, "")
	for n := 20; n < 50; n++ {
		w, d := made(t, small, 1000, "")
		one := pattern(n, 0)
		appends(t, "P12.3", w, 0, []string{one}, 1, api.OK)
		bytes := len(head) + 16 + n
		want := []string{head + framesOf(1, one), "", ""}
		tells(t, "P12.3", w, 1, 2, 128-bytes, 0, api.OK)
		appends(t, "P12.3", w, 0, []string{"b"}, 2, api.OK)
		if bytes >= small.Size {
			want[1] = next
			bytes += len(next)
			want[1] += framesOf(2, "b")
		} else {
			want[0] += framesOf(2, "b")
		}
		shows(t, fmt.Sprintf("P12.3 behind a record of %d bytes", n), d, 2, want...)
		tells(t, "P12.3", w, 1, 3, 128-bytes-17, 0, api.OK)
	}
}

// TestAppendRoom: records of just the room, and of one byte more; the disk's, and that of Files - 1 files; one by one, and over several files.
func TestAppendRoom(t *testing.T) {
	for _, c := range []struct {
		about string
		conf  api.WalConf
		room  int // of the disk
		ahead []string
		l     []string // whose last one is as long as it gets
		left  int      // what is left of the room for that
	}{
		{"one record", small, 1000, nil, nil, 128 - 18 - 16},
		{"one record, by the disk", small, 100, nil, nil, 100 - 18 - 40 - 16},
		{"two records", small, 1000, nil, []string{"a"}, 128 - 18 - 17 - 16},
		{"a record that fills a file, and one behind it", small, 1000, nil, []string{pattern(30, 0)}, 128 - 64 - 18 - 16},
		{"records that leave a file a byte less than full", small, 1000, nil, []string{pattern(29, 0)}, 128 - 63 - 16},
		{"one record behind a file that is full", small, 1000, []string{pattern(30, 0)}, nil, 128 - 64 - 18 - 16},
		{"the same, by the disk", small, 150, []string{pattern(30, 0)}, nil, 150 - 40 - 64 - 18 - 16},
		{"one record behind a file that is more than full", small, 1000, []string{pattern(40, 0)}, nil, 128 - 74 - 18 - 16},
		{"over four files", api.WalConf{Files: 5, Size: 64, Check: 32}, 1000, nil, []string{pattern(30, 0), pattern(30, 1), pattern(30, 2)}, 256 - 64 - 64 - 64 - 18 - 16},
		{"over four files, by the disk", api.WalConf{Files: 5, Size: 64, Check: 32}, 280, nil, []string{pattern(30, 0), pattern(30, 1), pattern(30, 2)}, 280 - 32 - 64 - 64 - 64 - 18 - 16},
		{"a first file that its head fills", api.WalConf{Files: 3, Size: 64, Check: 90}, 1000, nil, nil, 128 - 18 - 16},
	} {
		about := "P12.3 " + c.about
		text := ""
		if c.conf.Check == 90 {
			text = pattern(64-18, 0)
			c.left -= 64
		}
		for _, over := range []int{0, 1, 500} {
			w, d := made(t, c.conf, c.room, text)
			if len(c.ahead) > 0 {
				appends(t, about, w, 0, c.ahead, 1, api.OK)
			}
			was, next, room := filesOf(d), w.Next(), w.Room()
			l := append(slices.Clone(c.l), pattern(c.left+over, 9))
			if over > 0 {
				appends(t, about+", and more", w, 0, l, 0, api.ErrFull)
				shows(t, about+", and more", d, len(c.ahead), was...)
				tells(t, about+", and more", w, 1, next, room, 0, api.OK)
				continue
			}
			appends(t, about, w, 0, l, next, api.OK)
			tells(t, about, w, 1, next+uint64(len(l)), 0, 0, api.OK)
			appends(t, about+", and an empty record", w, 0, []string{""}, 0, api.ErrFull)
			opens(t, about, d, c.conf, text, 1, append(slices.Clone(c.ahead), l...)...)
			// What a checkpoint needs is there yet.
			is(t, about+": Checkpoint", w.Checkpoint(pattern(c.conf.Check-18, 0)), api.OK)
		}
	}
}

// TestAppendUse: with what is reserved, which only what uses it has.
func TestAppendUse(t *testing.T) {
	for _, c := range []struct {
		about    string
		reserved int
		use      int
		need     int // bytes, of a room of 110 beside what is reserved
		e        api.Errno
		left     int // of what is reserved
	}{
		{"none of none", 0, 0, 110, api.OK, 0},
		{"none of none, a byte more", 0, 0, 111, api.ErrFull, 0},
		{"one of none", 0, 1, 50, api.ErrArg, 0},
		{"one of none, a byte more", 0, 1, 111, api.ErrArg, 0},
		{"none of some", 40, 0, 70, api.OK, 40},
		{"none of some, a byte more", 40, 0, 71, api.ErrFull, 40},
		{"some", 40, 15, 85, api.OK, 25},
		{"some, a byte more", 40, 15, 86, api.ErrFull, 40},
		{"some, with less than that", 40, 35, 20, api.OK, 5},
		{"all", 40, 40, 110, api.OK, 0},
		{"all, with less than that", 40, 40, 16, api.OK, 0},
		{"all, a byte more", 40, 40, 111, api.ErrFull, 40},
		{"one more than all", 40, 41, 16, api.ErrArg, 40},
		{"one below none", 40, -1, 16, api.ErrArg, 40},
		{"far below none", 40, math.MinInt, 16, api.ErrArg, 40},
		{"far more than all", 40, math.MaxInt, 16, api.ErrArg, 40},
		{"all where all is reserved", 110, 110, 110, api.OK, 0},
		{"all but one where all is reserved", 110, 109, 110, api.ErrFull, 110},
		{"none where all is reserved", 110, 0, 16, api.ErrFull, 110},
	} {
		for _, room := range []int{1000, 18 + 40 + 110} { // of the disk: it bounds nothing, or just as much
			about := "P12.3 using " + c.about
			w, d := made(t, small, room, "")
			is(t, "P12.5 Reserve", w.Reserve(c.reserved), api.OK)
			one := pattern(c.need-16, 0)
			next, bytes, want := uint64(0), 0, headOf(begin, 1, 1, "")
			if c.e == api.OK {
				next, bytes, want = 1, c.need, want+framesOf(1, one)
			}
			appends(t, about, w, c.use, []string{one}, next, c.e)
			shows(t, about, d, int(next), want, "", "")
			tells(t, about, w, 1, 1+next, max(110-bytes-c.left, 0), c.left, api.OK)
		}
	}
}

// at is a log whose checkpoint has this generation and first number.
func at(t *testing.T, gen, first uint64) (*Wal, *disk.Disk) {
	t.Helper()
	d := diskOf(t, 2000, headOf(begin, gen, first, ""), "", "")
	return mustOpen(t, d, api.WalConf{Files: 3, Size: 500, Check: 40}), d
}

// TestAppendMaxNumber: up to it, and not beyond; nothing is none beyond it.
func TestAppendMaxNumber(t *testing.T) {
	for back := range uint64(4) {
		for count := range 6 {
			w, d := at(t, 1, most-back)
			l := slices.Repeat([]string{"a"}, count)
			about := fmt.Sprintf("P12.3 %d records from MaxNumber - %d on", count, back)
			if uint64(count) > back+1 {
				appends(t, about, w, 0, l, 0, api.ErrFull)
				tells(t, about, w, most-back, most-back, w.Room(), 0, api.OK)
				continue
			}
			appends(t, about, w, 0, l, most-back, api.OK)
			tells(t, about, w, most-back, most-back+uint64(count), w.Room(), 0, api.OK)
			opens(t, about, d, api.WalConf{Files: 3, Size: 500, Check: 40}, "", most-back, l...)
		}
	}
	w, _ := at(t, 1, most)
	appends(t, "P12.3 the number MaxNumber", w, 0, []string{"a"}, most, api.OK)
	appends(t, "P12.3 nothing behind MaxNumber", w, 0, nil, most+1, api.OK)
	appends(t, "P12.3 a record behind MaxNumber", w, 0, []string{""}, 0, api.ErrFull)
	appends(t, "P12.3 a record behind MaxNumber that is too long", w, 0, []string{pattern(api.MaxRecord+1, 0)}, 0, api.ErrLong)
	appends(t, "P12.3 a record behind MaxNumber, with more than is reserved", w, 1, []string{""}, 0, api.ErrArg)
}

// TestAppendByGenerations: a head has as many bytes as its generation asks for.
func TestAppendByGenerations(t *testing.T) {
	one := pattern(40, 0)
	for _, gen := range []uint64{1, 127, 128, 1 << 14, 1 << 40, most} {
		about := fmt.Sprintf("P12.3 in generation %d", gen)
		d := diskOf(t, 2000, headOf(begin, gen, 5, ""), "", "")
		w := mustOpen(t, d, small)
		appends(t, about, w, 0, []string{one}, 5, api.OK)
		first, second := headOf(begin, gen, 5, "")+framesOf(5, one), headOf(more, gen, 6, "")
		text := pattern(128-len(first)-len(second)-16, 0)
		appends(t, about+", a byte more than the room", w, 0, []string{text + "x"}, 0, api.ErrFull)
		appends(t, about+", just the room", w, 0, []string{text}, 6, api.OK)
		shows(t, about, d, 2, first, second+framesOf(6, text), "")
	}
}

// TestAppendOneCallARecord: nothing is synced, and each record is one call, also where a file begins with it.
func TestAppendOneCallARecord(t *testing.T) {
	w, d := made(t, api.WalConf{Files: 4, Size: 64, Check: 40}, 1000, "")
	l := []string{pattern(30, 0), pattern(30, 1), "c"}
	if n := calls(d, func() { appends(t, "P12.3", w, 0, l, 1, api.OK) }); n != 3 {
		t.Errorf("P12.3 Append of 3 records: %d calls", n)
	}
	head, second, third := headOf(begin, 1, 1, ""), headOf(more, 1, 2, ""), headOf(more, 1, 3, "")
	shows(t, "P12.3 over files", d, 3, head+framesOf(1, l[0]), second+framesOf(2, l[1]), third+framesOf(3, l[2]), "")
	if n := calls(d, func() { is(t, "P12.3 Sync", w.Sync(), api.OK) }); n != 1 {
		t.Errorf("P12.3 Sync: %d calls", n)
	}
	is(t, "Crash", d.Crash(-1, 0), api.OK)
	opens(t, "P12.3 Sync", d, api.WalConf{Files: 4, Size: 64, Check: 40}, "", 1, l...)
}

// TestAppendFreeFile: the free file with the least number, wherever the log stands.
func TestAppendFreeFile(t *testing.T) {
	c := api.WalConf{Files: 4, Size: 64, Check: 40}
	one := pattern(40, 0)
	full := headOf(begin, 2, 5, "") + framesOf(5, one)
	next, last := headOf(more, 2, 6, "")+framesOf(6, one), headOf(more, 2, 7, "")+framesOf(7, "x")
	for _, files := range [][3][]string{
		{{full, "", "", ""}, {full, next, "", ""}, {full, next, last, ""}},
		{{"", full, "", ""}, {next, full, "", ""}, {next, full, last, ""}},
		{{"", "", full, ""}, {next, "", full, ""}, {next, last, full, ""}},
		{{"", "", "", full}, {next, "", "", full}, {next, last, "", full}},
	} {
		d := diskOf(t, 1000, files[0]...)
		w := mustOpen(t, d, c)
		appends(t, "P12.3", w, 0, []string{one}, 6, api.OK)
		shows(t, "P12.3 Append to a free file", d, 1, files[1]...)
		appends(t, "P12.3", w, 0, []string{"x"}, 7, api.OK)
		shows(t, "P12.3 Append to another one", d, 2, files[2]...)
	}
	// What somebody else wrote there is not gone over.
	d := diskOf(t, 1000, "", full, "", "")
	w := mustOpen(t, d, c)
	is(t, "Write", d.Write(0, "other"), api.OK)
	appends(t, "P12.3", w, 0, []string{one}, 6, api.OK)
	shows(t, "P12.3 Append to a free file beside another one", d, 2, "other", full, next, "")
}

// P12.4

func TestCheckpoint(t *testing.T) {
	c := api.WalConf{Files: 5, Size: 64, Check: 40}
	for _, records := range [][]string{nil, {"b"}, {pattern(40, 0)}, {pattern(40, 0), "b"}, {pattern(40, 0), pattern(40, 1)}, {pattern(40, 0), pattern(40, 1), "d", "e"}} {
		about := fmt.Sprintf("P12.4 Checkpoint of %d records", len(records))
		w, d := made(t, c, 1000, "a")
		appends(t, about, w, 0, records, 1, api.OK)
		is(t, "P12.5 Reserve", w.Reserve(20), api.OK)
		used := 0
		for _, s := range filesOf(d) {
			if s != "" {
				used++
			}
		}
		if n := calls(d, func() { is(t, about, w.Checkpoint("text"), api.OK) }); n != used+3 {
			t.Errorf("%s: %d calls, want %d", about, n, used+3)
		}
		next := uint64(len(records) + 1)
		want := make([]string, 5)
		want[used] = headOf(begin, 2, next, "text")
		shows(t, about, d, 0, want...)
		tells(t, about, w, next, next, 4*64-len(want[used])-20, 20, api.OK)
		is(t, "Crash", d.Crash(-1, 0), api.OK)
		opens(t, about, d.Copy(), c, "text", next)
		// The next one goes to the file that is free first, again.
		appends(t, about, w, 20, []string{"f"}, next, api.OK)
		is(t, about+", and another", w.Checkpoint(""), api.OK)
		shows(t, about+", and another", d, 0, headOf(begin, 3, next+1, ""), "", "", "", "")
		tells(t, about+", and another", w, next+1, next+1, 4*64-18, 0, api.OK)
		opens(t, about+", and another", d, c, "", next+1)
	}
}

// TestCheckpointOrder: call by call; the files are cut in the log's order.
func TestCheckpointOrder(t *testing.T) {
	c := api.WalConf{Files: 5, Size: 64, Check: 40}
	one := pattern(40, 0)
	first := headOf(begin, 7, 5, "") + framesOf(5, one)
	second, third := headOf(more, 7, 6, "")+framesOf(6, one), headOf(more, 7, 7, "")+framesOf(7, "x")
	head := headOf(begin, 8, 8, "text")
	steps := [][]string{
		{second, third, "", first, ""},
		{second, third, head, first, ""},
		{second, third, head, first, ""},
		{second, third, head, "", ""},
		{"", third, head, "", ""},
		{"", "", head, "", ""},
		{"", "", head, "", ""},
	}
	loose := []int{0, 1, 0, 1, 2, 3, 0}
	for fuse := range steps {
		d := diskOf(t, 1000, steps[0]...)
		w := mustOpen(t, d, c)
		is(t, "P12.5 Reserve", w.Reserve(30), api.OK)
		is(t, "Fuse", d.Fuse(fuse), api.OK)
		about := fmt.Sprintf("P12.4 Checkpoint, with a fuse of %d", fuse)
		if fuse == len(steps)-1 {
			is(t, about, w.Checkpoint("text"), api.OK)
			tells(t, about, w, 8, 8, 4*64-len(head)-30, 30, api.OK)
			is(t, about+": a call more", d.Sync(), api.ErrDown)
		} else {
			is(t, about, w.Checkpoint("text"), api.ErrDown)
			if w.First() != 5 || w.Next() != 8 || w.Reserved() != 30 || w.Down() != api.ErrDown {
				t.Errorf("%s: first %d, next %d, reserved %d, %v", about, w.First(), w.Next(), w.Reserved(), w.Down())
			}
			broken(t, about, w)
		}
		shows(t, about, d, loose[fuse], steps[fuse]...)
	}
}

// TestCheckpointLong: a head of just Check bytes, and of one more; by its generation, too.
func TestCheckpointLong(t *testing.T) {
	for _, gen := range []uint64{1, 126, 127, 1<<14 - 1, most - 1} {
		for _, check := range []int{40, 200} {
			d := diskOf(t, 2000, headOf(begin, gen, 5, ""), "", "")
			w := mustOpen(t, d, api.WalConf{Files: 3, Size: 500, Check: check})
			just := pattern(check-17-len(wire.Uints(gen+1)), 0)
			is(t, "P12.4 Checkpoint of a byte more than Check", w.Checkpoint(just+"x"), api.ErrLong)
			shows(t, "P12.4 refused", d, 0, headOf(begin, gen, 5, ""), "", "")
			tells(t, "P12.4 refused", w, 5, 5, 1000-len(headOf(begin, gen, 5, "")), 0, api.OK)
			is(t, "P12.4 Checkpoint of just Check bytes", w.Checkpoint(just), api.OK)
			shows(t, "P12.4 Checkpoint of just Check bytes", d, 0, "", headOf(begin, gen+1, 5, just), "")
		}
	}
	c := api.WalConf{Files: 2, Size: 1 << 17, Check: 1 << 20}
	w, d := made(t, c, api.MaxRoom, "a")
	just := pattern(api.MaxRecord-2, 0)
	is(t, "P12.4 Checkpoint of a head that is longer than may be", w.Checkpoint(just+"x"), api.ErrLong)
	is(t, "P12.4 Checkpoint of the longest head", w.Checkpoint(just), api.OK)
	opens(t, "P12.4 Checkpoint of the longest head", d, c, just, 1)
}

// TestCheckpointMaxNumber: there is no generation behind MaxNumber, and no head with a number beyond it.
func TestCheckpointMaxNumber(t *testing.T) {
	long := pattern(api.MaxRecord+1, 0)
	w, d := at(t, most, 5)
	for _, text := range []string{"", "a", long} {
		is(t, "P12.4 Checkpoint of generation MaxNumber", w.Checkpoint(text), api.ErrArg)
	}
	shows(t, "P12.4 refused", d, 0, headOf(begin, most, 5, ""), "", "")
	w, d = at(t, most-1, 5)
	is(t, "P12.4 Checkpoint to generation MaxNumber", w.Checkpoint("a"), api.OK)
	shows(t, "P12.4 Checkpoint to generation MaxNumber", d, 0, "", headOf(begin, most, 5, "a"), "")
	is(t, "P12.4 Checkpoint behind it", w.Checkpoint("a"), api.ErrArg)
	w, d = at(t, 1, most)
	is(t, "P12.4 Checkpoint whose first number is MaxNumber", w.Checkpoint("a"), api.OK)
	appends(t, "P12.3", w, 0, []string{"last"}, most, api.OK)
	is(t, "P12.4 Checkpoint behind MaxNumber", w.Checkpoint("a"), api.ErrArg)
	is(t, "P12.4 Checkpoint behind MaxNumber, too long", w.Checkpoint(long), api.ErrArg)
	shows(t, "P12.4 refused", d, 1, "", headOf(begin, 2, most, "a")+framesOf(most, "last"), "")
	tells(t, "P12.4 refused", w, most, most+1, 1000-19-20, 0, api.OK)
}

// TestCheckpointFull: what is reserved just bearable, and one more; by the files, and by the disk.
func TestCheckpointFull(t *testing.T) {
	for _, c := range []struct {
		about string
		room  int // of the disk
		text  string
		most  int // that may be reserved
	}{
		{"the files, nothing", 1000, "", 128 - 18},
		{"the files, a text", 1000, "text", 128 - 22},
		{"the files, as long as may be", 1000, pattern(22, 0), 128 - 40},
		{"the disk, nothing", 130, "", 130 - 18 - 40},
		{"the disk, a text", 130, "text", 130 - 22 - 40},
		{"the disk, as long as may be", 130, pattern(22, 0), 130 - 40 - 40},
		{"both", 168, "text", 128 - 22},
		{"just the disk", 167, "text", 167 - 22 - 40},
	} {
		for records := range 2 {
			// The log's own head is the shortest, so that as much and more can be reserved.
			for _, reserved := range []int{0, 1, c.most - 1, c.most, c.most + 1, c.most + 5} {
				about := fmt.Sprintf("P12.4 %s: Checkpoint with %d records, and %d reserved of %d", c.about, records, reserved, c.most)
				w, d := made(t, small, c.room, "")
				// What the records take is the checkpoint's to give back.
				appends(t, about, w, 0, slices.Repeat([]string{""}, records), 1, api.OK)
				if err := w.Reserve(reserved); err != api.OK {
					continue
				}
				was, room := filesOf(d), w.Room()
				if reserved > c.most {
					is(t, about, w.Checkpoint(c.text), api.ErrFull)
					shows(t, about, d, records, was...)
					tells(t, about, w, 1, uint64(records)+1, room, reserved, api.OK)
					continue
				}
				is(t, about, w.Checkpoint(c.text), api.OK)
				tells(t, about, w, uint64(records)+1, uint64(records)+1, c.most-reserved, reserved, api.OK)
				// What is reserved can be appended yet.
				if reserved >= 16 {
					appends(t, about, w, reserved, []string{pattern(reserved-16, 0)}, uint64(records)+1, api.OK)
				}
			}
		}
	}
}

// TestCheckpointFullIsReached: what TestCheckpointFull leaves out for want of room are not all that are too many.
func TestCheckpointFullIsReached(t *testing.T) {
	for _, room := range []int{1000, 130} {
		w, _ := made(t, small, room, "")
		is(t, "P12.5 Reserve of all", w.Reserve(w.Room()), api.OK)
		is(t, "P12.4 Checkpoint of a byte more", w.Checkpoint("x"), api.ErrFull)
		is(t, "P12.4 Checkpoint too long, ahead of full", w.Checkpoint(pattern(23, 0)), api.ErrLong)
		is(t, "P12.5 Reserve of one less", w.Reserve(-1), api.OK)
		is(t, "P12.4 Checkpoint of a byte more", w.Checkpoint("x"), api.OK)
		is(t, "P12.4 Checkpoint of two more", w.Checkpoint("xy"), api.ErrFull)
	}
	// A head for which there is no room at all, with nothing reserved.
	c := api.WalConf{Files: 2, Size: 64, Check: 200}
	w, d := made(t, c, 1000, "")
	is(t, "P12.4 Checkpoint of more than a file's Size", w.Checkpoint(pattern(47, 0)), api.ErrFull)
	is(t, "P12.4 Checkpoint of just a file's Size", w.Checkpoint(pattern(46, 0)), api.OK)
	shows(t, "P12.4 Checkpoint of just a file's Size", d, 0, "", headOf(begin, 2, 1, pattern(46, 0)))
	c = api.WalConf{Files: 2, Size: 1000, Check: 100}
	w, d = made(t, c, 130, "")
	is(t, "P12.4 Checkpoint that would not leave Check bytes", w.Checkpoint(pattern(13, 0)), api.ErrFull)
	is(t, "P12.4 Checkpoint that leaves just Check bytes", w.Checkpoint(pattern(12, 0)), api.OK)
	shows(t, "P12.4 Checkpoint that leaves just Check bytes", d, 0, "", headOf(begin, 2, 1, pattern(12, 0)))
}

// TestCheckpointFreeFile: the free file with the least number, wherever the log stands.
func TestCheckpointFreeFile(t *testing.T) {
	head := headOf(begin, 2, 5, "old")
	for at, to := range []int{1, 0, 0} {
		files := []string{"", "", ""}
		files[at] = head
		d := diskOf(t, 1000, files...)
		w := mustOpen(t, d, small)
		is(t, "P12.4 Checkpoint", w.Checkpoint("new"), api.OK)
		want := []string{"", "", ""}
		want[to] = headOf(begin, 3, 5, "new")
		shows(t, fmt.Sprintf("P12.4 Checkpoint of a log in file %d", at), d, 0, want...)
	}
	d := diskOf(t, 1000, "", head, "")
	w := mustOpen(t, d, small)
	is(t, "Write", d.Write(0, "other"), api.OK)
	is(t, "P12.4 Checkpoint", w.Checkpoint("new"), api.OK)
	shows(t, "P12.4 Checkpoint beside a file that is not free", d, 0, "other", "", headOf(begin, 3, 5, "new"))
}

// TestNoFreeFile: where another conf, or somebody else, left no file, nothing is written, and the log goes on.
func TestNoFreeFile(t *testing.T) {
	one := pattern(40, 0)
	files := []string{headOf(begin, 1, 1, "a") + framesOf(1, one), headOf(more, 1, 2, "") + framesOf(2, one)}
	c := api.WalConf{Files: 2, Size: 100, Check: 40}
	d := diskOf(t, 1000, files...)
	w := opens(t, "P12.2 Open of files that are all the log's", d, c, "a", 1, one, one)
	tells(t, "P12.2 Open of files that are all the log's", w, 1, 3, 0, 0, api.OK)
	appends(t, "P12.3 without room", w, 0, []string{""}, 0, api.ErrFull)
	is(t, "P12.4 Checkpoint without a free file", w.Checkpoint("b"), api.ErrFull)
	shows(t, "P12.4 refused", d, 0, files...)
	tells(t, "P12.4 refused", w, 1, 3, 0, 0, api.OK)

	// With a conf by which the last file is not full it goes on there.
	c.Size = 200
	w = mustOpen(t, d, c)
	appends(t, "P12.3 to a file that is not full any more", w, 0, []string{"b"}, 3, api.OK)
	shows(t, "P12.3 to a file that is not full any more", d, 1, files[0], files[1]+framesOf(3, "b"))
	is(t, "P12.4 Checkpoint without a free file", w.Checkpoint("b"), api.ErrFull)

	// The room of three files is there, but of these one alone is free.
	w, d = made(t, api.WalConf{Files: 4, Size: 64, Check: 40}, 1000, "")
	is(t, "Write", d.Write(1, "x"), api.OK)
	is(t, "Write", d.Write(3, "x"), api.OK)
	was := filesOf(d)
	appends(t, "P12.3 over more files than are free", w, 0, []string{pattern(30, 0), pattern(30, 1), "c"}, 0, api.ErrFull)
	shows(t, "P12.3 refused", d, 2, was...)
	tells(t, "P12.3 refused", w, 1, 1, 3*64-18, 0, api.OK)
	appends(t, "P12.3 over as many files as are free", w, 0, []string{pattern(30, 0), pattern(30, 1)}, 1, api.OK)
	shows(t, "P12.3 over as many files as are free", d, 4, headOf(begin, 1, 1, "")+framesOf(1, pattern(30, 0)), "x", headOf(more, 1, 2, "")+framesOf(2, pattern(30, 1)), "x")
	is(t, "P12.4 Checkpoint without a free file", w.Checkpoint(""), api.ErrFull)
}

// P12.5

func TestReserve(t *testing.T) {
	for _, room := range []int{1000, 18 + 40 + 110, 18 + 40 + 60} {
		w, d := made(t, small, room, "")
		all := min(110, room-58)
		is(t, "P12.5 Reserve of one more than the room", w.Reserve(all+1), api.ErrFull)
		is(t, "P12.5 Reserve of far more", w.Reserve(math.MaxInt), api.ErrFull)
		is(t, "P12.5 Reserve of less than none", w.Reserve(-1), api.ErrArg)
		is(t, "P12.5 Reserve of far less", w.Reserve(math.MinInt), api.ErrArg)
		tells(t, "P12.5 refused", w, 1, 1, all, 0, api.OK)
		is(t, "P12.5 Reserve of none", w.Reserve(0), api.OK)
		tells(t, "P12.5 Reserve of none", w, 1, 1, all, 0, api.OK)
		is(t, "P12.5 Reserve of some", w.Reserve(20), api.OK)
		tells(t, "P12.5 Reserve of some", w, 1, 1, all-20, 20, api.OK)
		is(t, "P12.5 Reserve of one more than is left", w.Reserve(all-19), api.ErrFull)
		is(t, "P12.5 Reserve of far more than is left", w.Reserve(math.MaxInt), api.ErrFull)
		is(t, "P12.5 Reserve of all that is left", w.Reserve(all-20), api.OK)
		tells(t, "P12.5 Reserve of all that is left", w, 1, 1, 0, all, api.OK)
		is(t, "P12.5 Reserve of none where there is no room", w.Reserve(0), api.OK)
		is(t, "P12.5 Reserve of one where there is no room", w.Reserve(1), api.ErrFull)
		is(t, "P12.5 Reserve of more back than there is", w.Reserve(-all-1), api.ErrArg)
		is(t, "P12.5 Reserve of far more back", w.Reserve(math.MinInt), api.ErrArg)
		is(t, "P12.5 Reserve of some back", w.Reserve(-15), api.OK)
		tells(t, "P12.5 Reserve of some back", w, 1, 1, 15, all-15, api.OK)
		is(t, "P12.5 Reserve of all back", w.Reserve(15-all), api.OK)
		tells(t, "P12.5 Reserve of all back", w, 1, 1, all, 0, api.OK)
		shows(t, "P12.5 Reserve", d, 0, headOf(begin, 1, 1, ""), "", "")
	}
}

// TestReserveCallsNoDisk: also of one that stands still, which the log does not know.
func TestReserveCallsNoDisk(t *testing.T) {
	w, d := made(t, small, 1000, "")
	is(t, "Fuse", d.Fuse(0), api.OK)
	is(t, "P12.5 Reserve", w.Reserve(20), api.OK)
	tells(t, "P12.5 a disk that stands still", w, 1, 1, 90, 20, api.OK)
	is(t, "P12.3 Sync", w.Sync(), api.ErrDown)
	tells(t, "P12.5 a disk that stands still", w, 1, 1, 90, 20, api.ErrDown)
}

// TestRoomIsNeverBelow0: where the disk has less than Check bytes, or the files have more than Files - 1 of them may.
func TestRoomIsNeverBelow0(t *testing.T) {
	w, _ := made(t, api.WalConf{Files: 3, Size: 64, Check: 1000}, 500, "")
	tells(t, "P12.5 less than Check bytes", w, 1, 1, 0, 0, api.OK)
	appends(t, "P12.3 less than Check bytes", w, 0, []string{""}, 0, api.ErrFull)
	is(t, "P12.5 Reserve", w.Reserve(1), api.ErrFull)
	is(t, "P12.5 Reserve", w.Reserve(0), api.OK)
	w, _ = made(t, api.WalConf{Files: 2, Size: 64, Check: 1000}, 5000, pattern(500, 0))
	tells(t, "P12.5 a head of more than the files' bytes", w, 1, 1, 0, 0, api.OK)
	appends(t, "P12.3 a head of more than the files' bytes", w, 0, []string{""}, 0, api.ErrFull)
	is(t, "P12.4 Checkpoint of less", w.Checkpoint(""), api.OK)
	tells(t, "P12.4 Checkpoint of less", w, 1, 1, 64-18, 0, api.OK)
	// What somebody else wrote takes room of what is reserved.
	w, d := made(t, small, 200, "")
	is(t, "P12.5 Reserve", w.Reserve(100), api.OK)
	is(t, "Write", d.Write(2, pattern(120, 0)), api.OK)
	tells(t, "P12.5 less room than is reserved", w, 1, 1, 0, 100, api.OK)
	is(t, "P12.5 Reserve of some back", w.Reserve(-10), api.OK)
	tells(t, "P12.5 less room than is reserved", w, 1, 1, 0, 90, api.OK)
}

// TestNoLog: of a log that is nil, or that neither Make nor Open made.
func TestNoLog(t *testing.T) {
	for _, w := range []*Wal{nil, {}, new(Wal)} {
		for range 2 {
			appends(t, "P12.3 no log", w, 0, []string{"a"}, 0, api.ErrNil)
			appends(t, "P12.3 no log", w, -1, nil, 0, api.ErrNil)
			is(t, "P12.3 Sync of no log", w.Sync(), api.ErrNil)
			is(t, "P12.4 Checkpoint of no log", w.Checkpoint(""), api.ErrNil)
			is(t, "P12.4 Checkpoint of no log", w.Checkpoint(pattern(api.MaxRecord+1, 0)), api.ErrNil)
			for _, n := range []int{0, 1, -1, math.MaxInt, math.MinInt} {
				is(t, "P12.5 Reserve of no log", w.Reserve(n), api.ErrNil)
			}
			tells(t, "P12.5 no log", w, 0, 0, 0, 0, api.ErrNil)
		}
	}
}

// broken says where a log that is down does anything, or tells something else than that.
func broken(t *testing.T, about string, w *Wal) {
	t.Helper()
	first, next, room, reserved, down := w.First(), w.Next(), w.Room(), w.Reserved(), w.Down()
	for range 2 {
		appends(t, about+", down", w, 0, []string{"a"}, 0, api.ErrBroken)
		appends(t, about+", down", w, 0, nil, 0, api.ErrBroken)
		appends(t, about+", down", w, -1, []string{pattern(api.MaxRecord+1, 0)}, 0, api.ErrBroken)
		is(t, about+", down: Sync", w.Sync(), api.ErrBroken)
		is(t, about+", down: Checkpoint", w.Checkpoint(""), api.ErrBroken)
		is(t, about+", down: Checkpoint", w.Checkpoint(pattern(api.MaxRecord+1, 0)), api.ErrBroken)
		for _, n := range []int{0, 1, -1, math.MaxInt, math.MinInt} {
			is(t, about+", down: Reserve", w.Reserve(n), api.ErrBroken)
		}
		tells(t, about+", down", w, first, next, room, reserved, down)
	}
	if down == api.OK || down == api.ErrNil {
		t.Errorf("%s: down by %v", about, down)
	}
}

// TestBroken: each call of the disk that fails, in Append and in Sync; a log that is down stays so, also where the disk goes again.
func TestBroken(t *testing.T) {
	l := []string{pattern(30, 0), pattern(40, 1), "c"}
	conf := api.WalConf{Files: 4, Size: 64, Check: 40}
	head := headOf(begin, 1, 1, "")
	files := []string{head + framesOf(1, l[0]), headOf(more, 1, 2, "") + framesOf(2, l[1]), headOf(more, 1, 3, "") + framesOf(3, l[2])}
	for fuse := range 5 {
		w, d := made(t, conf, 1000, "")
		is(t, "P12.5 Reserve", w.Reserve(50), api.OK)
		is(t, "Fuse", d.Fuse(fuse), api.OK)
		about := fmt.Sprintf("P12.3 with a fuse of %d", fuse)
		want := []string{head, "", "", ""}
		copy(want, files[:min(fuse, 3)])
		room := 3*64 - len(strings.Join(want, "")) - 50
		if fuse < 3 {
			appends(t, about, w, 40, l, 0, api.ErrDown)
			shows(t, about, d, fuse, want...)
			tells(t, about, w, 1, uint64(fuse)+1, max(room, 0), 50, api.ErrDown)
		} else {
			appends(t, about, w, 40, l, 1, api.OK)
			tells(t, about, w, 1, 4, max(room+40, 0), 10, api.OK)
			if fuse == 4 {
				is(t, about+": Sync", w.Sync(), api.OK)
			}
			is(t, about+": Sync", w.Sync(), api.ErrDown)
			tells(t, about, w, 1, 4, max(room+40, 0), 10, api.ErrDown)
		}
		broken(t, about, w)
		is(t, "Fuse", d.Fuse(-1), api.OK)
		broken(t, about+", where the disk goes again", w)
		shows(t, about, d, []int{0, 1, 2, 3, 0}[fuse], want...)
		opens(t, about+", opened again", d, conf, "", 1, l[:min(fuse, 3)]...)
	}
}

// TestBrokenByAFullDisk: where somebody else wrote what was kept free.
func TestBrokenByAFullDisk(t *testing.T) {
	w, d := made(t, small, 200, "")
	is(t, "P12.5 Reserve", w.Reserve(100), api.OK)
	is(t, "Write", d.Write(2, pattern(d.Room()-40, 0)), api.OK)
	was := filesOf(d)
	appends(t, "P12.3 more than the room and use", w, 60, []string{pattern(45, 0)}, 0, api.ErrFull)
	tells(t, "P12.3 more than the room and use", w, 1, 1, 0, 100, api.OK)
	appends(t, "P12.3 more than the disk has", w, 100, []string{pattern(25, 0)}, 0, api.ErrFull)
	tells(t, "P12.3 more than the disk has", w, 1, 1, 0, 100, api.ErrFull)
	shows(t, "P12.3 more than the disk has", d, 1, was...)
	broken(t, "P12.3 more than the disk has", w)

	w, d = made(t, api.WalConf{Files: 3, Size: 500, Check: 40}, 400, "")
	appends(t, "P12.3", w, 0, []string{pattern(200, 0)}, 1, api.OK)
	is(t, "Write", d.Write(2, pattern(d.Room()-17, 0)), api.OK)
	was = filesOf(d)
	is(t, "P12.4 Checkpoint of more than the disk has", w.Checkpoint(""), api.ErrFull)
	tells(t, "P12.4 Checkpoint of more than the disk has", w, 1, 2, 0, 0, api.ErrFull)
	shows(t, "P12.4 Checkpoint of more than the disk has", d, 2, was...)
	broken(t, "P12.4 Checkpoint of more than the disk has", w)
}

// TestRefusedAheadOfTheDisk: what is wrong with a call is told also where the disk stands still, and the log is not down by it.
func TestRefusedAheadOfTheDisk(t *testing.T) {
	w, d := made(t, small, 1000, "")
	is(t, "P12.5 Reserve", w.Reserve(100), api.OK)
	is(t, "Fuse", d.Fuse(0), api.OK)
	appends(t, "P12.3", w, 101, []string{"a"}, 0, api.ErrArg)
	appends(t, "P12.3", w, 0, []string{pattern(api.MaxRecord+1, 0)}, 0, api.ErrLong)
	appends(t, "P12.3", w, 0, []string{"a"}, 0, api.ErrFull)
	is(t, "P12.4", w.Checkpoint(pattern(23, 0)), api.ErrLong)
	is(t, "P12.4", w.Checkpoint(pattern(15, 0)), api.ErrFull)
	tells(t, "P12.3 refused", w, 1, 1, 10, 100, api.OK)
	appends(t, "P12.3", w, 100, []string{"a"}, 0, api.ErrDown)
	tells(t, "P12.3 refused", w, 1, 1, 10, 100, api.ErrDown)
	// Where a file would begin: the disk is asked first which one is free.
	d = diskOf(t, 1000, headOf(begin, 1, 1, "")+framesOf(1, pattern(40, 0)), "", "")
	w = mustOpen(t, d, small)
	is(t, "Fuse", d.Fuse(0), api.OK)
	appends(t, "P12.3 to a free file", w, 0, []string{"a"}, 0, api.ErrDown)
	broken(t, "P12.3 to a free file", w)
	w, d = made(t, small, 1000, "")
	is(t, "Fuse", d.Fuse(0), api.OK)
	is(t, "P12.4", w.Checkpoint("a"), api.ErrDown)
	broken(t, "P12.4", w)
}

// By the chapter's words

// plain is a log by the chapter's words, and the disk that it stands on; made by no function of this package.
type plain struct {
	conf     api.WalConf
	size     int // bytes that the disk has room for in all
	files    []string
	loose    int
	fuse     int // or -1
	order    []int
	gen      uint64
	first    uint64
	next     uint64
	reserved int
	down     api.Errno
}

// left is how many bytes more the disk has room for.
func (p *plain) left() int { return p.size - len(strings.Join(p.files, "")) }

// burns tells whether the disk goes; if so, a call burns the fuse.
func (p *plain) burns() bool {
	if p.fuse > 0 {
		p.fuse--
		return true
	}
	return p.fuse < 0
}

func (p *plain) write(file int, s string) api.Errno {
	switch {
	case !p.burns():
		return api.ErrDown
	case len(s) > p.left():
		return api.ErrFull
	}
	p.files[file] += s
	p.loose++
	return api.OK
}

func (p *plain) cut(file, n int) api.Errno {
	if !p.burns() {
		return api.ErrDown
	}
	p.files[file] = p.files[file][:n]
	p.loose++
	return api.OK
}

func (p *plain) syncs() api.Errno {
	if !p.burns() {
		return api.ErrDown
	}
	p.loose = 0
	return api.OK
}

// free is the free file with the least number.
func (p *plain) free() int { return slices.Index(p.files, "") }

// bytes are those of the log's files.
func (p *plain) bytes() int {
	n := 0
	for _, file := range p.order {
		n += len(p.files[file])
	}
	return n
}

func (p *plain) room() int {
	return max(min((p.conf.Files-1)*p.conf.Size-p.bytes(), p.left()-p.conf.Check)-p.reserved, 0)
}

func (p *plain) make(text string) api.Errno {
	head := headOf(begin, 1, 1, text)
	switch {
	case len(head) > p.conf.Check:
		return api.ErrLong
	case p.fuse == 0:
		return api.ErrDown
	case len(head) > p.size:
		return api.ErrFull
	}
	was := strings.Join(p.files, "")
	for i, s := range p.files {
		if s != "" {
			if e := p.cut(i, 0); e != api.OK {
				return e
			}
		}
	}
	if was != "" {
		if e := p.syncs(); e != api.OK {
			return e
		}
	}
	if e := p.write(0, head); e != api.OK {
		return e
	}
	p.order, p.gen, p.first, p.next, p.reserved, p.down = []int{0}, 1, 1, 1, 0, api.OK
	return p.syncs()
}

func (p *plain) open() (k api.Kept, e api.Errno) {
	if p.fuse == 0 {
		return k, api.ErrDown
	}
	var l []api.Segment
	var places []int
	for i, s := range p.files {
		if x, err := segment.Parse(s); err == api.OK {
			l, places = append(l, x), append(places, i)
		}
	}
	row, err := segment.Row(l...)
	if err != api.OK {
		return k, api.ErrNothing
	}
	p.order, p.reserved, p.down = nil, 0, api.OK
	for _, place := range row {
		p.order = append(p.order, places[place])
		k.Records = append(k.Records, l[place].Records...)
	}
	k.Text, k.First = l[row[0]].Text, l[row[0]].First
	p.gen, p.first, p.next = l[row[0]].Gen, k.First, k.First+uint64(len(k.Records))
	cut := false
	if last := row[len(row)-1]; !l[last].Whole {
		cut = true
		if e := p.cut(places[last], l[last].Used); e != api.OK {
			return api.Kept{}, e
		}
	}
	for i, s := range p.files {
		if s != "" && !slices.Contains(p.order, i) {
			cut = true
			if e := p.cut(i, 0); e != api.OK {
				return api.Kept{}, e
			}
		}
	}
	if cut {
		if e := p.syncs(); e != api.OK {
			return api.Kept{}, e
		}
	}
	return k, api.OK
}

// need is what records need.
func (p *plain) need(l []string) int {
	need, last := 0, len(p.files[p.order[len(p.order)-1]])
	for i, text := range l {
		if last >= p.conf.Size {
			last = len(headOf(more, p.gen, p.next+uint64(i), ""))
			need += last
		}
		last += 16 + len(text)
		need += 16 + len(text)
	}
	return need
}

func (p *plain) append(use int, l []string) (uint64, api.Errno) {
	switch {
	case p.down != api.OK:
		return 0, api.ErrBroken
	case use < 0 || use > p.reserved:
		return 0, api.ErrArg
	case p.need(l) > p.room()+use:
		return 0, api.ErrFull
	}
	first := p.next
	for _, text := range l {
		file, s := p.order[len(p.order)-1], framed(p.next, text)
		full := len(p.files[file]) >= p.conf.Size
		if full {
			file, s = p.free(), headOf(more, p.gen, p.next, "")+s
		}
		if p.down = p.write(file, s); p.down != api.OK {
			return 0, p.down
		}
		if full {
			p.order = append(p.order, file)
		}
		p.next++
	}
	p.reserved -= use
	return first, api.OK
}

func (p *plain) sync() api.Errno {
	if p.down != api.OK {
		return api.ErrBroken
	}
	p.down = p.syncs()
	return p.down
}

func (p *plain) checkpoint(text string) api.Errno {
	head, file := headOf(begin, p.gen+1, p.next, text), p.free()
	switch {
	case p.down != api.OK:
		return api.ErrBroken
	case len(head) > p.conf.Check:
		return api.ErrLong
	case p.reserved > (p.conf.Files-1)*p.conf.Size-len(head), p.reserved > p.left()+p.bytes()-len(head)-p.conf.Check:
		return api.ErrFull
	}
	if p.down = p.write(file, head); p.down != api.OK {
		return p.down
	}
	if p.down = p.syncs(); p.down != api.OK {
		return p.down
	}
	for _, old := range p.order {
		if p.down = p.cut(old, 0); p.down != api.OK {
			return p.down
		}
	}
	if p.down = p.syncs(); p.down != api.OK {
		return p.down
	}
	p.order, p.gen, p.first = []int{file}, p.gen+1, p.next
	return api.OK
}

func (p *plain) reserve(n int) api.Errno {
	switch {
	case p.down != api.OK:
		return api.ErrBroken
	case n > p.room():
		return api.ErrFull
	case n < -p.reserved:
		return api.ErrArg
	}
	p.reserved += n
	return api.OK
}

// draws are numbers that look like chance, the same at each run.
type draws struct{ state uint64 }

// next is a number from 0 to below n.
func (d *draws) next(n int) int {
	d.state = d.state*6364136223846793005 + 1442695040888963407
	return int((d.state >> 33) % uint64(n))
}

// texts are a few records, of which few are long.
func (d *draws) texts() []string {
	l := make([]string, d.next(5))
	for i := range l {
		l[i] = pattern(d.next(12), d.next(256))
		if d.next(5) == 0 {
			l[i] = pattern(d.next(90), d.next(256))
		}
	}
	return l
}

// both is a log, and the same by the chapter's words.
type both struct {
	d *disk.Disk
	w *Wal
	p *plain
}

// step does something to both, and says where they answer otherwise.
func (b *both) step(t *testing.T, about string, r *draws) {
	t.Helper()
	switch k := r.next(40); {
	case k < 18:
		l, use := r.texts(), 0
		if r.next(2) == 0 {
			use = r.next(b.p.reserved+3) - 1
		}
		n, e := b.p.append(use, l)
		appends(t, about, b.w, use, l, n, e)
	case k < 23:
		is(t, about+": Sync", b.w.Sync(), b.p.sync())
	case k < 27:
		text := pattern(r.next(b.p.conf.Check-16), r.next(256))
		is(t, about+": Checkpoint", b.w.Checkpoint(text), b.p.checkpoint(text))
	case k < 33:
		n := r.next(60) - r.next(40)
		is(t, about+": Reserve", b.w.Reserve(n), b.p.reserve(n))
	case k < 35:
		b.p.fuse = r.next(9) - 2
		b.d.Fuse(b.p.fuse)
		b.p.fuse = max(b.p.fuse, -1)
	default:
		if r.next(3) > 0 {
			b.d.Crash(r.next(b.d.Loose()+2)-1, r.next(70)-1)
			b.p.fuse = -1
		}
		b.again(t, about, r)
	}
}

// again opens the log of the disk, or makes one, by both ways, until there is one.
func (b *both) again(t *testing.T, about string, r *draws) {
	t.Helper()
	b.p.files, b.p.loose = filesOf(b.d), b.d.Loose()
	for {
		w, k, err := Open(b.d, b.p.conf)
		want, e := b.p.open()
		if (w != nil) != (e == api.OK) || err != e || k.Text != want.Text || k.First != want.First || !slices.Equal(k.Records, want.Records) {
			t.Errorf("%s: Open: %+v, %v, want %+v, %v", about, k, err, want, e)
		}
		if err == api.ErrNothing || err == api.OK && r.next(12) == 0 {
			text := pattern(r.next(b.p.conf.Check-16), r.next(256))
			w, err = Make(b.d, b.p.conf, text)
			if e = b.p.make(text); (w != nil) != (e == api.OK) || err != e {
				t.Errorf("%s: Make: %v, want %v", about, err, e)
			}
		}
		b.alike(t, about+" behind Open")
		if err == api.OK || t.Failed() {
			b.w = w
			return
		}
		if b.d.Fuse(-1); r.next(2) == 0 {
			b.d.Crash(r.next(b.d.Loose()+2)-1, r.next(70)-1)
		}
		b.p.files, b.p.loose, b.p.fuse = filesOf(b.d), b.d.Loose(), -1
	}
}

// alike says where the disk is another one than by the chapter's words.
func (b *both) alike(t *testing.T, about string) {
	t.Helper()
	shows(t, about, b.d, b.p.loose, b.p.files...)
}

// TestAsTheChapterSays: rows of all calls, with fuses, crashes in the midst, and logs that are opened and made again.
func TestAsTheChapterSays(t *testing.T) {
	met := map[string]int{}
	for seed := range 400 {
		r := &draws{state: uint64(seed)}
		c := api.WalConf{Files: 2 + r.next(4), Size: 64 + r.next(80), Check: 32 + r.next(60)}
		p := &plain{conf: c, size: 100 + r.next(500), fuse: -1, files: make([]string, c.Files)}
		b := &both{d: mustDisk(t, c.Files, p.size), p: p}
		about := fmt.Sprintf("row %d, %+v of %d", seed, c, p.size)
		b.again(t, about, r)
		for i := range 300 {
			b.step(t, fmt.Sprintf("%s, step %d", about, i), r)
			b.alike(t, fmt.Sprintf("%s, step %d", about, i))
			if t.Failed() {
				return
			}
			if p.down == api.OK {
				met["goes"]++
				met[fmt.Sprint(len(p.order), " files")]++
			}
			tells(t, about, b.w, p.first, p.next, p.room(), p.reserved, p.down)
			if p.down == api.OK && p.free() < 0 {
				t.Errorf("P12.6 %s, step %d: no free file", about, i)
			}
		}
	}
	if met["goes"] < 20000 || met["3 files"] < 1000 || met["4 files"] < 100 {
		t.Errorf("too few steps: %v", met)
	}
}

// P12.6

// tale is what the log of a disk may be found to have.
type tale struct {
	text    string
	first   uint64
	records []string
	synced  int    // how many of them were there at the last Sync
	coming  bool   // whether a checkpoint is under way
	next    string // its text
}

// act is a call of a log, and what it tells a tale.
type act func(w *Wal, s *tale) api.Errno

func appending(use int, l ...string) act {
	return func(w *Wal, s *tale) api.Errno {
		_, err := w.Append(use, l...)
		s.records = append(s.records, l...)
		return err
	}
}

func syncing(w *Wal, s *tale) api.Errno {
	err := w.Sync()
	if err == api.OK {
		s.synced = len(s.records)
	}
	return err
}

func checking(text string) act {
	return func(w *Wal, s *tale) api.Errno {
		err := w.Checkpoint(text)
		s.coming, s.next = true, text
		if err == api.OK {
			*s = tale{text: text, first: s.first + uint64(len(s.records))}
		}
		return err
	}
}

func reserving(n int) act { return func(w *Wal, s *tale) api.Errno { return w.Reserve(n) } }

// may tells whether a log may be found so.
func (s *tale) may(k api.Kept) bool {
	if s.coming && k.Text == s.next && k.First == s.first+uint64(len(s.records)) && len(k.Records) == 0 {
		return true
	}
	n := len(k.Records)
	return k.Text == s.text && k.First == s.first && n >= s.synced && n <= len(s.records) && slices.Equal(k.Records, s.records[:n])
}

// show is a tale as a test tells it.
func (s *tale) show() string {
	about := fmt.Sprintf("%q, from %d on %q, %d of them synced", s.text, s.first, s.records, s.synced)
	if s.coming {
		about += fmt.Sprintf(", or %q", s.next)
	}
	return about
}

// crashes goes through copies of a disk behind each crash: with each number of calls that are kept, and each number of bytes of the next one.
func crashes(t *testing.T, d *disk.Disk, each func(about string, x *disk.Disk)) {
	t.Helper()
	for calls := -1; calls <= d.Loose(); calls++ {
		last := ""
		for bytes := range 120 {
			x := d.Copy()
			is(t, "Crash", x.Crash(calls, bytes), api.OK)
			now := strings.Join(filesOf(x), "|")
			if now == last {
				break // of a call there is no more than all
			}
			last = now
			each(fmt.Sprintf("Crash(%d, %d)", calls, bytes), x)
		}
	}
}

// found says where a crash left something else than a tale tells, and what is there then.
func found(t *testing.T, about string, d *disk.Disk, c api.WalConf, s *tale) (*Wal, api.Kept) {
	t.Helper()
	w, k, err := Open(d, c)
	if err != api.OK || !s.may(k) {
		t.Fatalf("P12.6 %s: %q, from %d on %q, %v; may be %s", about, k.Text, k.First, k.Records, err, s.show())
	}
	if !slices.Contains(filesOf(d), "") {
		t.Fatalf("P12.6 %s: no free file", about)
	}
	return w, k
}

// goesOn says where a log that was found does not go on.
func goesOn(t *testing.T, about string, d *disk.Disk, c api.WalConf, w *Wal, k api.Kept) {
	t.Helper()
	if w.Room() >= 40 {
		appends(t, about, w, 0, []string{"z"}, w.Next(), api.OK)
		is(t, about, w.Sync(), api.OK)
		k.Records = append(k.Records, "z")
		is(t, "Crash", d.Crash(-1, 0), api.OK)
		w = opens(t, about+" and goes on", d, c, k.Text, k.First, k.Records...)
	}
	is(t, about, w.Checkpoint("end"), api.OK)
	is(t, "Crash", d.Crash(-1, 0), api.OK)
	opens(t, about+" and goes on to a checkpoint", d, c, "end", k.First+uint64(len(k.Records)))
}

// tellsTale says where a crash, at each call of the disk, leaves something else than it may; and how many crashes there were.
func tellsTale(t *testing.T, about string, c api.WalConf, room int, acts []act) int {
	t.Helper()
	count := 0
	for fuse := 0; ; fuse++ {
		w, d := made(t, c, room, "start")
		is(t, "Fuse", d.Fuse(fuse), api.OK)
		s := &tale{text: "start", first: 1}
		err := api.OK
		for _, do := range acts {
			if err = do(w, s); err != api.OK {
				break
			}
		}
		if err != api.OK && err != api.ErrDown {
			t.Fatalf("P12.6 %s, with a fuse of %d: %v", about, fuse, err)
		}
		crashes(t, d, func(how string, x *disk.Disk) {
			count++
			how = fmt.Sprintf("%s, with a fuse of %d, %s", about, fuse, how)
			// Open itself may be cut short, at each of its calls, and crashed.
			for short := 1; short < 6; short++ {
				y := x.Copy()
				is(t, "Fuse", y.Fuse(short), api.OK)
				if _, _, err := Open(y, c); err == api.OK {
					break
				}
				crashes(t, y, func(then string, z *disk.Disk) {
					_, k := found(t, how+", Open cut short, "+then, z, c, s)
					opens(t, how+", "+then+", and again", z, c, k.Text, k.First, k.Records...)
				})
			}
			w, k := found(t, how, x, c, s)
			goesOn(t, how, x, c, w, k)
		})
		if err == api.OK {
			return count
		}
	}
}

// TestCrashAnywhere: at each call of the disk, with each way in which what was not synced is kept or lost.
func TestCrashAnywhere(t *testing.T) {
	one, two := pattern(30, 0), pattern(45, 1)
	count := 0
	for _, c := range []struct {
		about string
		conf  api.WalConf
		acts  []act
	}{
		{"the chapter's example", api.WalConf{Files: 2, Size: 500, Check: 40}, []act{appending(0, "b", "c"), syncing, appending(0, "d"), checking("e"), appending(0, "f"), syncing}},
		{"over files", api.WalConf{Files: 6, Size: 64, Check: 40}, []act{appending(0, "b", one, "c", two), syncing, appending(0, two, "d"), appending(0, "f")}},
		{"over files, never synced", api.WalConf{Files: 5, Size: 64, Check: 40}, []act{appending(0, one, two, ""), appending(0, "d")}},
		{"a checkpoint of several files", api.WalConf{Files: 4, Size: 64, Check: 40}, []act{appending(0, one, two), syncing, appending(0, "c"), checking("text"), appending(0, "d")}},
		{"checkpoints at once", api.WalConf{Files: 3, Size: 64, Check: 40}, []act{checking("b"), checking(""), checking("d"), appending(0, ""), checking("e")}},
		{"checkpoints of what was never synced", api.WalConf{Files: 3, Size: 64, Check: 40}, []act{appending(0, one), checking("b"), appending(0, two), checking("c"), appending(0, one, "x")}},
		{"the same text again", api.WalConf{Files: 3, Size: 64, Check: 40}, []act{appending(0, "b", "b"), syncing, checking("start"), appending(0, "b", "b"), syncing, checking("start")}},
		{"with what is reserved", api.WalConf{Files: 3, Size: 64, Check: 40}, []act{reserving(70), appending(0, "b"), appending(40, "c", "d"), checking("text"), reserving(20), appending(50, one), syncing, checking("e"), appending(0, "x")}},
		{"syncs alone", api.WalConf{Files: 2, Size: 64, Check: 40}, []act{syncing, appending(0), syncing, appending(0, ""), syncing, syncing}},
		{"records that are heads", api.WalConf{Files: 4, Size: 64, Check: 40}, []act{appending(0, headOf(begin, 9, 9, "no"), headOf(more, 1, 2, "")), syncing, appending(0, headOf(more, 1, 4, "")), checking("a"), appending(0, headOf(begin, 3, 1, ""))}},
	} {
		count += tellsTale(t, c.about, c.conf, 1000, c.acts)
		// With no more room than the files' bytes and a checkpoint need.
		count += tellsTale(t, c.about+", on a small disk", c.conf, (c.conf.Files-1)*c.conf.Size+c.conf.Check+20, c.acts)
	}
	if count < 1000 {
		t.Errorf("P12.6 %d crashes alone", count)
	}
}

// TestReservedCanBeAppended: whatever else was, as long as it went on; records and checkpoints take all that they can.
func TestReservedCanBeAppended(t *testing.T) {
	for seed := range 300 {
		r := &draws{state: uint64(seed) + 5000}
		c := api.WalConf{Files: 2 + r.next(4), Size: 64 + r.next(60), Check: 32 + r.next(60)}
		w, d := made(t, c, 150+r.next(400), "")
		for range 60 {
			switch r.next(6) {
			case 0:
				w.Reserve(r.next(w.Room() + 1))
			case 1:
				w.Checkpoint(pattern(r.next(c.Check-18), 0))
			case 2:
				for w.Room() >= 60 {
					w.Append(0, pattern(r.next(20), 0))
				}
			default:
				w.Append(0, r.texts()...)
			}
			if w.Down() != api.OK || !slices.Contains(filesOf(d), "") {
				t.Fatalf("P12.6 row %d: %v, or no free file", seed, w.Down())
			}
		}
		about := fmt.Sprintf("P12.6 row %d, %+v", seed, c)
		// With room for a head, if the last file is full.
		for all := w.Reserved(); all >= 16+24; all = w.Reserved() {
			n := min(all, 16+24+r.next(40))
			appends(t, about, w, n, []string{pattern(n-40, 1)}, w.Next(), api.OK)
			if r.next(3) == 0 {
				w.Checkpoint(pattern(r.next(c.Check-18), 0))
			}
			if w.Down() != api.OK || !slices.Contains(filesOf(d), "") || t.Failed() {
				t.Fatalf("%s: %v, or no free file", about, w.Down())
			}
		}
	}
}
