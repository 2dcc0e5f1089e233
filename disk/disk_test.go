package disk

import (
	"fmt"
	"math"
	"slices"
	"strings"
	"testing"
	"unsafe"

	"scrinium/api"
)

// pattern is n bytes that repeat only after 256, from one of them on.
func pattern(n, from int) string {
	b := make([]byte, n)
	for i := range b {
		b[i] = byte((i+from)*7 + 3)
	}
	return string(b)
}

// mustNew is a disk of so many files, with so much room.
func mustNew(t *testing.T, files, room int) *Disk {
	t.Helper()
	d, err := New(files, room)
	if d == nil || err != api.OK {
		t.Fatalf("P9.1 New(%d, %d): %v", files, room, err)
	}
	return d
}

// is says where a call was answered something else.
func is(t *testing.T, about string, got, want api.Errno) {
	t.Helper()
	if got != want {
		t.Errorf("%s: %v, want %v", about, got, want)
	}
}

// shows says where a disk's files have other bytes.
func shows(t *testing.T, about string, d *Disk, want ...string) {
	t.Helper()
	for i, w := range want {
		if s, err := d.Read(i); s != w || err != api.OK {
			t.Errorf("%s: file %d has %.40q (%d bytes), %v, want %.40q (%d bytes)", about, i, s, len(s), err, w, len(w))
		}
	}
}

// counts says where a disk has other files, more or less room, or more or less that is loose.
func counts(t *testing.T, about string, d *Disk, files, room, loose int) {
	t.Helper()
	if d.Files() != files || d.Room() != room || d.Loose() != loose {
		t.Errorf("%s: %d files, room %d, loose %d, want %d, %d, %d", about, d.Files(), d.Room(), d.Loose(), files, room, loose)
	}
}

// synced is a disk of two files, with room for 100 bytes more, which have abcdef and gh for good.
func synced(t *testing.T) *Disk {
	t.Helper()
	d := mustNew(t, 2, 108)
	is(t, "P9.2 Write(0, abcdef)", d.Write(0, "abcdef"), api.OK)
	is(t, "P9.2 Write(1, gh)", d.Write(1, "gh"), api.OK)
	is(t, "P9.2 Sync", d.Sync(), api.OK)
	counts(t, "P9.2 behind Sync", d, 2, 100, 0)
	return d
}

// goesFor says where a disk stands still behind more calls than so many, or fewer.
func goesFor(t *testing.T, about string, d *Disk, calls int) {
	t.Helper()
	for i := range calls {
		is(t, fmt.Sprintf("%s: call %d", about, i), d.Sync(), api.OK)
	}
	is(t, about+": a call more", d.Sync(), api.ErrDown)
}

// P9.1

func TestNew(t *testing.T) {
	for _, files := range []int{1, 2, 15, api.MaxFiles} {
		for _, room := range []int{0, 1, 4096, api.MaxRoom - 1, api.MaxRoom} {
			d := mustNew(t, files, room)
			counts(t, "P9.1 New", d, files, room, 0)
			shows(t, "P9.1 New", d, make([]string, files)...)
			if s, err := d.Read(files); s != "" || err != api.ErrNone {
				t.Errorf("P9.1 New(%d, %d): file %d has %q, %v", files, room, files, s, err)
			}
		}
	}
}

func TestNewWrong(t *testing.T) {
	for _, c := range [][2]int{
		{0, 0}, {0, 1}, {0, api.MaxRoom}, {-1, 0}, {-1, -1}, {math.MinInt, 9}, {api.MaxFiles + 1, 0}, {api.MaxFiles + 1, api.MaxRoom}, {math.MaxInt, 9},
		{256 + 1, 9}, {1<<32 + 1, 9}, {1, -1}, {16, -1}, {1, math.MinInt}, {1, api.MaxRoom + 1}, {16, api.MaxRoom + 1}, {1, math.MaxInt}, {1, 1 << 32},
		{0, -1}, {17, api.MaxRoom + 1},
	} {
		if d, err := New(c[0], c[1]); d != nil || err != api.ErrArg {
			t.Errorf("P9.1 New(%d, %d): %v, %v, want none, ErrArg", c[0], c[1], d, err)
		}
	}
}

// TestCounts: room goes by what all files have, also by what is loose of it; what is loose goes by calls.
func TestCounts(t *testing.T) {
	d := mustNew(t, 3, 20)
	for _, c := range []struct {
		about string
		do    func() api.Errno
		room  int
		loose int
	}{
		{"Write", func() api.Errno { return d.Write(0, "abcde") }, 15, 1},
		{"Write to another", func() api.Errno { return d.Write(2, "fgh") }, 12, 2},
		{"Write of nothing", func() api.Errno { return d.Write(1, "") }, 12, 3},
		{"Cut", func() api.Errno { return d.Cut(0, 1) }, 16, 4},
		{"Cut of nothing", func() api.Errno { return d.Cut(0, 1) }, 16, 5},
		{"Sync", d.Sync, 16, 0},
		{"Sync again", d.Sync, 16, 0},
		{"Cut to nothing", func() api.Errno { return d.Cut(2, 0) }, 19, 1},
		{"Crash", func() api.Errno { return d.Crash(0, 0) }, 16, 0},
		{"Write behind it", func() api.Errno { return d.Write(1, "ijkl") }, 12, 1},
		{"Fuse", func() api.Errno { return d.Fuse(0) }, 12, 1},
		{"Crash in a Write", func() api.Errno { return d.Crash(0, 3) }, 13, 0},
		{"Spoil", func() api.Errno { return d.Spoil(1, 2, 1) }, 13, 0},
	} {
		is(t, "P9.1 "+c.about, c.do(), api.OK)
		counts(t, "P9.1 "+c.about, d, 3, c.room, c.loose)
	}
}

// P9.2

func TestWrite(t *testing.T) {
	d := mustNew(t, 2, 100)
	is(t, "P9.2 Write", d.Write(0, "ab"), api.OK)
	shows(t, "P9.2 Write", d, "ab", "")
	is(t, "P9.2 Write of nothing", d.Write(1, ""), api.OK)
	shows(t, "P9.2 Write of nothing", d, "ab", "")
	is(t, "P9.2 Write behind it", d.Write(0, "c\x00\xff"), api.OK)
	is(t, "P9.2 Write to the other", d.Write(1, "xyz"), api.OK)
	shows(t, "P9.2 Write behind it", d, "abc\x00\xff", "xyz")
	counts(t, "P9.2 Write", d, 2, 92, 4)
}

// TestWriteEachFile: each file has bytes of its own, at the most that there may be.
func TestWriteEachFile(t *testing.T) {
	d := mustNew(t, api.MaxFiles, 1000)
	want := make([]string, api.MaxFiles)
	for i := range want {
		want[i] = pattern(i+1, i)
		is(t, "P9.2 Write", d.Write(i, want[i]), api.OK)
	}
	shows(t, "P9.2 Write to each", d, want...)
	is(t, "P9.2 Sync", d.Sync(), api.OK)
	is(t, "P9.4 Crash", d.Crash(0, 0), api.OK)
	shows(t, "P9.2 Write to each, synced", d, want...)
}

func TestWriteRoom(t *testing.T) {
	for _, room := range []int{0, 1, 2, 127, api.MaxRoom} {
		d := mustNew(t, 2, room)
		is(t, "P9.2 Write of one byte more than there is room for", d.Write(1, pattern(room+1, 0)), api.ErrFull)
		counts(t, "P9.2 Write refused", d, 2, room, 0)
		shows(t, "P9.2 Write refused", d, "", "")
		is(t, "P9.2 Write of just the room", d.Write(1, pattern(room, 0)), api.OK)
		counts(t, "P9.2 Write of just the room", d, 2, 0, 1)
		is(t, "P9.2 Write to a full disk", d.Write(0, "a"), api.ErrFull)
		is(t, "P9.2 Write of nothing to a full disk", d.Write(0, ""), api.OK)
		shows(t, "P9.2 Write of just the room", d, "", pattern(room, 0))
	}
}

// TestRoomComesBack: what a Cut took away there is room for again, and what a crash took away.
func TestRoomComesBack(t *testing.T) {
	d := mustNew(t, 2, 10)
	is(t, "P9.2 Write", d.Write(0, "abcdef"), api.OK)
	is(t, "P9.2 Write", d.Write(1, "ghij"), api.OK)
	is(t, "P9.2 Write to a full disk", d.Write(1, "k"), api.ErrFull)
	is(t, "P9.2 Cut", d.Cut(0, 4), api.OK)
	is(t, "P9.2 Write of too much", d.Write(1, "klm"), api.ErrFull)
	is(t, "P9.2 Write of what was cut", d.Write(1, "kl"), api.OK)
	shows(t, "P9.2 Write of what was cut", d, "abcd", "ghijkl")
	is(t, "P9.4 Crash", d.Crash(1, 0), api.OK)
	is(t, "P9.2 Write of too much", d.Write(1, "12345"), api.ErrFull)
	is(t, "P9.2 Write of what the crash took", d.Write(1, "1234"), api.OK)
	shows(t, "P9.2 Write behind a crash", d, "abcdef", "1234")
}

func TestCut(t *testing.T) {
	for n := range 7 {
		d := synced(t)
		is(t, "P9.2 Cut", d.Cut(0, n), api.OK)
		shows(t, fmt.Sprintf("P9.2 Cut(0, %d)", n), d, "abcdef"[:n], "gh")
		counts(t, "P9.2 Cut", d, 2, 106-n, 1)
		is(t, "P9.2 Write behind a Cut", d.Write(0, "xy"), api.OK)
		shows(t, "P9.2 Write behind a Cut", d, "abcdef"[:n]+"xy", "gh")
	}
}

func TestCutWrong(t *testing.T) {
	d := synced(t)
	for _, n := range []int{-1, 7, math.MinInt, math.MaxInt, 256, 1 << 32} {
		is(t, fmt.Sprintf("P9.2 Cut(0, %d)", n), d.Cut(0, n), api.ErrArg)
	}
	for _, n := range []int{-1, 3, 6} {
		is(t, fmt.Sprintf("P9.2 Cut(1, %d)", n), d.Cut(1, n), api.ErrArg)
	}
	shows(t, "P9.2 Cut refused", d, "abcdef", "gh")
	counts(t, "P9.2 Cut refused", d, 2, 100, 0)
	e := mustNew(t, 1, 0)
	is(t, "P9.2 Cut(0, 1) of an empty file", e.Cut(0, 1), api.ErrArg)
	is(t, "P9.2 Cut(0, -1) of an empty file", e.Cut(0, -1), api.ErrArg)
	is(t, "P9.2 Cut(0, 0) of an empty file", e.Cut(0, 0), api.OK)
	counts(t, "P9.2 Cut of an empty file", e, 1, 0, 1)
}

// TestCutOfWhatIsLoose: how many bytes a file has goes by what is loose, too.
func TestCutOfWhatIsLoose(t *testing.T) {
	d := synced(t)
	is(t, "P9.2 Write", d.Write(0, "xyz"), api.OK)
	is(t, "P9.2 Cut of one byte more", d.Cut(0, 10), api.ErrArg)
	is(t, "P9.2 Cut of all", d.Cut(0, 9), api.OK)
	is(t, "P9.2 Cut", d.Cut(0, 7), api.OK)
	is(t, "P9.2 Cut of more than is there now", d.Cut(0, 8), api.ErrArg)
	shows(t, "P9.2 Cut", d, "abcdefx", "gh")
}

// noFiles are numbers that no file of a disk of n files has.
func noFiles(n int) []int {
	return []int{-1, n, n + 1, -n, math.MinInt, math.MaxInt, 256, 1 << 32, api.MaxFiles, api.MaxFiles + 1}
}

// TestNoFile: it is told ahead of what else is wrong.
func TestNoFile(t *testing.T) {
	for _, n := range []int{1, 2, api.MaxFiles} {
		d := mustNew(t, n, 9)
		is(t, "P9.2 Write", d.Write(0, "ab"), api.OK)
		for _, file := range noFiles(n) {
			about := fmt.Sprintf("of file %d of %d", file, n)
			is(t, "P9.2 Write "+about, d.Write(file, "a"), api.ErrNone)
			is(t, "P9.2 Write of nothing "+about, d.Write(file, ""), api.ErrNone)
			is(t, "P9.2 Write of too much "+about, d.Write(file, pattern(10, 0)), api.ErrNone)
			is(t, "P9.2 Cut "+about, d.Cut(file, 0), api.ErrNone)
			is(t, "P9.2 Cut of -1 "+about, d.Cut(file, -1), api.ErrNone)
			is(t, "P9.2 Cut of 9 "+about, d.Cut(file, 9), api.ErrNone)
			if s, err := d.Read(file); s != "" || err != api.ErrNone {
				t.Errorf("P9.3 Read %s: %q, %v, want ErrNone", about, s, err)
			}
			is(t, "P9.4 Spoil "+about, d.Spoil(file, 0, 1), api.ErrNone)
			is(t, "P9.4 Spoil at -1 "+about, d.Spoil(file, -1, 1), api.ErrNone)
		}
		counts(t, "P9.2 refused", d, n, 7, 1)
		shows(t, "P9.2 refused", d, "ab")
	}
}

// TestFuseBurns: each call of Write, Cut and Sync burns one off the fuse, whatever it is answered; no other call does.
func TestFuseBurns(t *testing.T) {
	for _, c := range []struct {
		about string
		do    func(d *Disk) api.Errno
		want  api.Errno
		burnt int
	}{
		{"Write", func(d *Disk) api.Errno { return d.Write(0, "a") }, api.OK, 1},
		{"Write of nothing", func(d *Disk) api.Errno { return d.Write(0, "") }, api.OK, 1},
		{"Write to no file", func(d *Disk) api.Errno { return d.Write(2, "a") }, api.ErrNone, 1},
		{"Write of too much", func(d *Disk) api.Errno { return d.Write(0, pattern(101, 0)) }, api.ErrFull, 1},
		{"Cut", func(d *Disk) api.Errno { return d.Cut(0, 1) }, api.OK, 1},
		{"Cut of nothing", func(d *Disk) api.Errno { return d.Cut(0, 6) }, api.OK, 1},
		{"Cut of no file", func(d *Disk) api.Errno { return d.Cut(-1, 1) }, api.ErrNone, 1},
		{"Cut beyond", func(d *Disk) api.Errno { return d.Cut(0, 7) }, api.ErrArg, 1},
		{"Sync", func(d *Disk) api.Errno { return d.Sync() }, api.OK, 1},
		{"Read", func(d *Disk) api.Errno { _, err := d.Read(0); return err }, api.OK, 0},
		{"Read of no file", func(d *Disk) api.Errno { _, err := d.Read(2); return err }, api.ErrNone, 0},
		{"Spoil", func(d *Disk) api.Errno { return d.Spoil(0, 0, 1) }, api.OK, 0},
		{"Spoil of no file", func(d *Disk) api.Errno { return d.Spoil(2, 0, 1) }, api.ErrNone, 0},
		{"Copy", func(d *Disk) api.Errno { d.Copy().Sync(); return api.OK }, api.OK, 0},
		{"counting", func(d *Disk) api.Errno { _, _, _ = d.Files(), d.Room(), d.Loose(); return api.OK }, api.OK, 0},
	} {
		for _, fuse := range []int{1, 2, 3} {
			d := synced(t)
			is(t, "P9.3 Fuse", d.Fuse(fuse), api.OK)
			is(t, "P9.2 "+c.about, c.do(d), c.want)
			goesFor(t, "P9.2 behind "+c.about, d, fuse-c.burnt)
		}
		d := synced(t)
		is(t, "P9.2 "+c.about, c.do(d), c.want)
		is(t, "P9.3 Fuse", d.Fuse(1), api.OK)
		goesFor(t, "P9.2 a fuse behind "+c.about, d, 1)
	}
}

// TestRefusedIsNotLoose: of what was refused nothing comes back behind a crash, and it is no call that is counted there.
func TestRefusedIsNotLoose(t *testing.T) {
	d := synced(t)
	is(t, "P9.2 Write", d.Write(0, "1"), api.OK)
	is(t, "P9.2 Write to no file", d.Write(2, "2"), api.ErrNone)
	is(t, "P9.2 Write of too much", d.Write(0, pattern(100, 0)), api.ErrFull)
	is(t, "P9.2 Cut of no file", d.Cut(2, 0), api.ErrNone)
	is(t, "P9.2 Cut beyond", d.Cut(0, 8), api.ErrArg)
	is(t, "P9.2 Write", d.Write(1, "3"), api.OK)
	is(t, "P9.3 Fuse", d.Fuse(0), api.OK)
	is(t, "P9.2 Write to a disk that stands still", d.Write(0, "4"), api.ErrDown)
	is(t, "P9.2 Cut of a disk that stands still", d.Cut(0, 0), api.ErrDown)
	is(t, "P9.2 Sync of a disk that stands still", d.Sync(), api.ErrDown)
	counts(t, "P9.2 refused", d, 2, 98, 2)
	for _, c := range []struct {
		calls, bytes int
		want         []string
	}{
		{0, 0, []string{"abcdef", "gh"}},
		{0, 9, []string{"abcdef1", "gh"}},
		{1, 0, []string{"abcdef1", "gh"}},
		{1, 9, []string{"abcdef1", "gh3"}},
		{2, 0, []string{"abcdef1", "gh3"}},
		{9, 9, []string{"abcdef1", "gh3"}},
	} {
		x := d.Copy()
		is(t, "P9.4 Crash", x.Crash(c.calls, c.bytes), api.OK)
		shows(t, fmt.Sprintf("P9.2 refused, Crash(%d, %d)", c.calls, c.bytes), x, c.want...)
	}
}

// TestDown: a disk that stands still tells that ahead of all else, changes nothing, and answers what is no call of its files.
func TestDown(t *testing.T) {
	d := synced(t)
	is(t, "P9.2 Write", d.Write(0, "x"), api.OK)
	is(t, "P9.3 Fuse", d.Fuse(0), api.OK)
	for range 3 {
		for _, file := range []int{0, 1, 2, -1} {
			is(t, "P9.2 Write, down", d.Write(file, "a"), api.ErrDown)
			is(t, "P9.2 Write of too much, down", d.Write(file, pattern(101, 0)), api.ErrDown)
			is(t, "P9.2 Cut, down", d.Cut(file, 0), api.ErrDown)
			is(t, "P9.2 Cut beyond, down", d.Cut(file, -1), api.ErrDown)
			is(t, "P9.2 Sync, down", d.Sync(), api.ErrDown)
			if s, err := d.Read(file); s != "" || err != api.ErrDown {
				t.Errorf("P9.3 Read(%d), down: %q, %v, want ErrDown", file, s, err)
			}
		}
		counts(t, "P9.2 down", d, 2, 99, 1)
		is(t, "P9.4 Spoil, down", d.Spoil(0, 0, 1), api.ErrBusy)
	}
	is(t, "P9.3 Fuse, down", d.Fuse(-1), api.OK)
	shows(t, "P9.3 without a fuse", d, "abcdefx", "gh")
	is(t, "P9.3 Fuse", d.Fuse(1), api.OK)
	is(t, "P9.2 Sync, the last call", d.Sync(), api.OK)
	is(t, "P9.2 Sync, one more", d.Sync(), api.ErrDown)
	is(t, "P9.4 Spoil, down", d.Spoil(0, 6, 1), api.OK)
	is(t, "P9.4 Crash, down", d.Crash(0, 0), api.OK)
	shows(t, "P9.4 Crash of a disk that stands still", d, "abcdefy", "gh")
}

// P9.3

func TestRead(t *testing.T) {
	d := mustNew(t, 2, 1000)
	for range 2 {
		shows(t, "P9.3 Read", d, "", "")
	}
	is(t, "P9.2 Write", d.Write(1, pattern(256, 0)), api.OK)
	for range 2 {
		shows(t, "P9.3 Read", d, "", pattern(256, 0))
	}
	counts(t, "P9.3 Read", d, 2, 744, 1)
}

// TestReadIsItsOwn: what was read stays as it was, whatever comes behind it.
func TestReadIsItsOwn(t *testing.T) {
	d := synced(t)
	first, _ := d.Read(0)
	is(t, "P9.4 Spoil", d.Spoil(0, 0, 0xff), api.OK)
	second, _ := d.Read(0)
	is(t, "P9.2 Cut", d.Cut(0, 0), api.OK)
	is(t, "P9.2 Write", d.Write(0, "uvwxyz"), api.OK)
	if first != "abcdef" || second != "\x9ebcdef" {
		t.Errorf("P9.3 what was read is %q and %q", first, second)
	}
}

// TestTextIsNotKept: the disk has bytes of its own, now and behind a crash, whatever becomes of those that it was handed.
func TestTextIsNotKept(t *testing.T) {
	d := mustNew(t, 1, 100)
	b := []byte("abcdef")
	is(t, "P9.2 Write", d.Write(0, unsafe.String(&b[1], 4)), api.OK)
	copy(b, "......")
	shows(t, "P9.2 Write", d, "bcde")
	x := d.Copy()
	is(t, "P9.4 Crash", d.Crash(1, 0), api.OK)
	shows(t, "P9.2 Write, Crash(1, 0)", d, "bcde")
	is(t, "P9.4 Crash", x.Crash(0, 3), api.OK)
	shows(t, "P9.2 Write, Crash(0, 3)", x, "bcd")
}

func TestFuse(t *testing.T) {
	for n := range 5 {
		d := synced(t)
		is(t, "P9.3 Fuse", d.Fuse(n), api.OK)
		goesFor(t, fmt.Sprintf("P9.3 Fuse(%d)", n), d, n)
	}
	for _, n := range []int{-1, -2, math.MinInt} {
		for _, before := range []int{0, 1, 5, -1} {
			d := synced(t)
			is(t, "P9.3 Fuse", d.Fuse(before), api.OK)
			is(t, "P9.3 Fuse", d.Fuse(n), api.OK)
			for range 20 {
				is(t, fmt.Sprintf("P9.3 Sync behind Fuse(%d), Fuse(%d)", before, n), d.Sync(), api.OK)
			}
		}
	}
	d := synced(t)
	is(t, "P9.3 Fuse", d.Fuse(math.MaxInt), api.OK)
	is(t, "P9.3 Sync behind a long fuse", d.Sync(), api.OK)
}

// TestFuseAgain: the last fuse counts, of a disk that stands still, too.
func TestFuseAgain(t *testing.T) {
	for _, c := range [][2]int{{0, 1}, {0, 3}, {1, 3}, {3, 1}, {3, 0}, {5, 5}} {
		d := synced(t)
		is(t, "P9.3 Fuse", d.Fuse(c[0]), api.OK)
		is(t, "P9.3 Fuse", d.Fuse(c[1]), api.OK)
		goesFor(t, fmt.Sprintf("P9.3 Fuse(%d), Fuse(%d)", c[0], c[1]), d, c[1])
	}
	d := synced(t)
	is(t, "P9.3 Fuse", d.Fuse(2), api.OK)
	goesFor(t, "P9.3 Fuse(2)", d, 2)
	is(t, "P9.3 Fuse", d.Fuse(2), api.OK)
	goesFor(t, "P9.3 Fuse(2), burnt, and Fuse(2)", d, 2)
}

// TestLastCallIsDone: the call that burns the fuse down is done, and loose; its like behind it is not.
func TestLastCallIsDone(t *testing.T) {
	d := synced(t)
	is(t, "P9.3 Fuse", d.Fuse(2), api.OK)
	is(t, "P9.2 Write", d.Write(0, "1"), api.OK)
	is(t, "P9.2 Write, the last call", d.Write(0, "2"), api.OK)
	is(t, "P9.2 Write, one more", d.Write(0, "3"), api.ErrDown)
	counts(t, "P9.2 down", d, 2, 98, 2)
	is(t, "P9.4 Crash", d.Crash(9, 9), api.OK)
	shows(t, "P9.2 the last call", d, "abcdef12", "gh")
}

// P9.4

// TestExamples: the chapter's.
func TestExamples(t *testing.T) {
	d := mustNew(t, 2, 9)
	is(t, "P9.2 Write(0, xy)", d.Write(0, "xy"), api.OK)
	is(t, "P9.2 Sync", d.Sync(), api.OK)
	is(t, "P9.2 Write(0, z)", d.Write(0, "z"), api.OK)
	is(t, "P9.2 Write(1, w)", d.Write(1, "w"), api.OK)
	is(t, "P9.4 Crash(1, 0)", d.Crash(1, 0), api.OK)
	shows(t, "P9.4 the first example", d, "xyz", "")

	d = mustNew(t, 2, 9)
	is(t, "P9.2 Write(0, xyz)", d.Write(0, "xyz"), api.OK)
	is(t, "P9.4 Crash(0, 2)", d.Crash(0, 2), api.OK)
	shows(t, "P9.4 the second example", d, "xy", "")

	d = mustNew(t, 2, 9)
	is(t, "P9.2 Write(0, xyz)", d.Write(0, "xyz"), api.OK)
	is(t, "P9.2 Sync", d.Sync(), api.OK)
	is(t, "P9.2 Cut(0, 1)", d.Cut(0, 1), api.OK)
	is(t, "P9.4 Crash(0, 0)", d.Crash(0, 0), api.OK)
	shows(t, "P9.4 the third example", d, "xyz", "")
}

// TestCrashInAWrite: calls and bytes below 0, 0, within what was loose, and beyond it.
func TestCrashInAWrite(t *testing.T) {
	for _, c := range []struct {
		calls, bytes int
		want         []string
	}{
		{math.MinInt, math.MaxInt, []string{"abcdef", "gh"}},
		{-2, 9, []string{"abcdef", "gh"}},
		{-1, math.MinInt, []string{"abcdef", "gh"}},
		{-1, -1, []string{"abcdef", "gh"}},
		{-1, 0, []string{"abcdef", "gh"}},
		{-1, 1, []string{"abcdef", "gh"}},
		{-1, 9, []string{"abcdef", "gh"}},
		{0, math.MinInt, []string{"abcdef", "gh"}},
		{0, -2, []string{"abcdef", "gh"}},
		{0, -1, []string{"abcdef", "gh"}},
		{0, 0, []string{"abcdef", "gh"}},
		{0, 1, []string{"abcdef1", "gh"}},
		{0, 2, []string{"abcdef12", "gh"}},
		{0, 3, []string{"abcdef123", "gh"}},
		{0, 4, []string{"abcdef123", "gh"}},
		{0, math.MaxInt, []string{"abcdef123", "gh"}},
		{1, math.MinInt, []string{"abcdef123", "gh"}},
		{1, -1, []string{"abcdef123", "gh"}},
		{1, 0, []string{"abcdef123", "gh"}},
		{1, 1, []string{"abcdef123", "gh4"}},
		{1, 2, []string{"abcdef123", "gh45"}},
		{1, 3, []string{"abcdef123", "gh45"}},
		{2, 0, []string{"abcdef123", "gh45"}},
		{2, 1, []string{"abcdef1236", "gh45"}},
		{3, -1, []string{"abcdef1236", "gh45"}},
		{3, 9, []string{"abcdef1236", "gh45"}},
		{4, 0, []string{"abcdef1236", "gh45"}},
		{math.MaxInt, math.MaxInt, []string{"abcdef1236", "gh45"}},
		{math.MaxInt, math.MinInt, []string{"abcdef1236", "gh45"}},
	} {
		d := synced(t)
		is(t, "P9.2 Write", d.Write(0, "123"), api.OK)
		is(t, "P9.2 Write", d.Write(1, "45"), api.OK)
		is(t, "P9.2 Write", d.Write(0, "6"), api.OK)
		is(t, "P9.4 Crash", d.Crash(c.calls, c.bytes), api.OK)
		about := fmt.Sprintf("P9.4 Crash(%d, %d)", c.calls, c.bytes)
		shows(t, about, d, c.want...)
		counts(t, about, d, 2, 108-len(c.want[0])-len(c.want[1]), 0)
	}
}

// TestCrashInACut: of a Cut that is the next one nothing is done, however many bytes are asked for.
func TestCrashInACut(t *testing.T) {
	for _, c := range []struct {
		calls, bytes int
		want         []string
	}{
		{-1, 9, []string{"abcdef", "gh"}},
		{0, -1, []string{"abcdef", "gh"}},
		{0, 0, []string{"abcdef", "gh"}},
		{0, 1, []string{"abcdef", "gh"}},
		{0, 2, []string{"abcdef", "gh"}},
		{0, math.MaxInt, []string{"abcdef", "gh"}},
		{0, math.MinInt, []string{"abcdef", "gh"}},
		{1, -1, []string{"ab", "gh"}},
		{1, 0, []string{"ab", "gh"}},
		{1, 1, []string{"ab1", "gh"}},
		{2, 0, []string{"ab12", "gh"}},
		{2, -1, []string{"ab12", "gh"}},
		{2, 9, []string{"ab12", "gh"}},
		{3, 0, []string{"ab12", ""}},
		{3, 9, []string{"ab12", ""}},
		{4, 0, []string{"ab1", ""}},
		{5, 0, []string{"ab1", ""}},
		{math.MaxInt, 0, []string{"ab1", ""}},
	} {
		d := synced(t)
		is(t, "P9.2 Cut", d.Cut(0, 2), api.OK)
		is(t, "P9.2 Write", d.Write(0, "12"), api.OK)
		is(t, "P9.2 Cut", d.Cut(1, 0), api.OK)
		is(t, "P9.2 Cut", d.Cut(0, 3), api.OK)
		is(t, "P9.4 Crash", d.Crash(c.calls, c.bytes), api.OK)
		about := fmt.Sprintf("P9.4 Crash(%d, %d)", c.calls, c.bytes)
		shows(t, about, d, c.want...)
		counts(t, about, d, 2, 108-len(c.want[0])-len(c.want[1]), 0)
	}
}

// TestCrashOfNothing: where nothing is loose, all stays.
func TestCrashOfNothing(t *testing.T) {
	for _, calls := range []int{math.MinInt, -1, 0, 1, math.MaxInt} {
		for _, bytes := range []int{math.MinInt, -1, 0, 1, math.MaxInt} {
			d, e := synced(t), mustNew(t, 2, 9)
			is(t, "P9.4 Crash", d.Crash(calls, bytes), api.OK)
			shows(t, "P9.4 Crash where nothing is loose", d, "abcdef", "gh")
			is(t, "P9.4 Crash", e.Crash(calls, bytes), api.OK)
			shows(t, "P9.4 Crash of a new disk", e, "", "")
		}
	}
}

// TestCrashSince: a crash goes back to the last one of New, Sync and Crash.
func TestCrashSince(t *testing.T) {
	d := mustNew(t, 1, 100)
	is(t, "P9.2 Write", d.Write(0, "abc"), api.OK)
	is(t, "P9.4 Crash", d.Crash(0, 0), api.OK)
	shows(t, "P9.4 back to New", d, "")
	is(t, "P9.2 Write", d.Write(0, "def"), api.OK)
	is(t, "P9.4 Crash", d.Crash(0, 2), api.OK)
	is(t, "P9.2 Write", d.Write(0, "gh"), api.OK)
	is(t, "P9.4 Crash", d.Crash(0, 0), api.OK)
	shows(t, "P9.4 back to Crash", d, "de")
	is(t, "P9.2 Cut", d.Cut(0, 1), api.OK)
	is(t, "P9.2 Sync behind a Cut", d.Sync(), api.OK)
	is(t, "P9.2 Write", d.Write(0, "i"), api.OK)
	is(t, "P9.4 Crash", d.Crash(-1, 1), api.OK)
	shows(t, "P9.4 back to Sync", d, "d")
}

// TestCutAndSync: what was cut away comes back behind a crash, unless a Sync came behind the Cut; what was written in its place does not lie over it.
func TestCutAndSync(t *testing.T) {
	for n := range 7 {
		d := synced(t)
		is(t, "P9.2 Cut", d.Cut(0, n), api.OK)
		is(t, "P9.2 Write", d.Write(0, "UVWXYZ"), api.OK)
		x, y := d.Copy(), d.Copy()
		is(t, "P9.4 Crash", d.Crash(0, 9), api.OK)
		shows(t, "P9.4 a Cut without a Sync", d, "abcdef", "gh")
		is(t, "P9.2 Sync", x.Sync(), api.OK)
		is(t, "P9.4 Crash", x.Crash(0, 0), api.OK)
		shows(t, "P9.4 a Cut with a Sync", x, "abcdef"[:n]+"UVWXYZ", "gh")
		is(t, "P9.4 Crash", y.Crash(1, n), api.OK)
		shows(t, "P9.4 a Cut that is done", y, "abcdef"[:n]+"UVWXYZ"[:n], "gh")
	}
}

// TestCrashEndsFuse: behind a crash a disk goes, and has no fuse.
func TestCrashEndsFuse(t *testing.T) {
	for _, fuse := range []int{-1, 0, 1, 3} {
		d := synced(t)
		is(t, "P9.3 Fuse", d.Fuse(fuse), api.OK)
		is(t, "P9.4 Crash", d.Crash(0, 0), api.OK)
		for range 9 {
			is(t, "P9.4 Write behind a crash", d.Write(0, "x"), api.OK)
			is(t, "P9.4 Cut behind a crash", d.Cut(0, 1), api.OK)
			is(t, "P9.4 Sync behind a crash", d.Sync(), api.OK)
		}
		shows(t, "P9.4 behind a crash", d, "a", "gh")
	}
}

func TestSpoil(t *testing.T) {
	for at := range 6 {
		for _, by := range []byte{0, 1, 0x80, 0xff} {
			d := synced(t)
			want := []byte("abcdef")
			want[at] ^= by
			is(t, "P9.4 Spoil", d.Spoil(0, at, by), api.OK)
			shows(t, "P9.4 Spoil", d, string(want), "gh")
			counts(t, "P9.4 Spoil", d, 2, 100, 0)
			is(t, "P9.2 Write", d.Write(0, "x"), api.OK)
			shows(t, "P9.4 Spoil, Write", d, string(want)+"x", "gh")
			is(t, "P9.4 Crash", d.Crash(0, 0), api.OK)
			shows(t, "P9.4 Spoil, Crash", d, string(want), "gh")
			is(t, "P9.4 Spoil", d.Spoil(0, at, by), api.OK)
			is(t, "P9.4 Crash", d.Crash(0, 0), api.OK)
			shows(t, "P9.4 Spoil twice", d, "abcdef", "gh")
		}
	}
}

func TestSpoilWrong(t *testing.T) {
	d := synced(t)
	for _, at := range []int{-1, 6, 7, math.MinInt, math.MaxInt, 256, 1 << 32} {
		is(t, fmt.Sprintf("P9.4 Spoil(0, %d)", at), d.Spoil(0, at, 1), api.ErrArg)
	}
	is(t, "P9.4 Spoil(1, 2)", d.Spoil(1, 2, 1), api.ErrArg)
	is(t, "P9.4 Spoil of an empty file", mustNew(t, 1, 9).Spoil(0, 0, 1), api.ErrArg)
	shows(t, "P9.4 Spoil refused", d, "abcdef", "gh")
}

// TestSpoilBusy: whatever is loose; it is told behind all else that is wrong.
func TestSpoilBusy(t *testing.T) {
	for _, loosen := range []func(d *Disk) api.Errno{
		func(d *Disk) api.Errno { return d.Write(0, "x") },
		func(d *Disk) api.Errno { return d.Write(1, "x") },
		func(d *Disk) api.Errno { return d.Write(1, "") },
		func(d *Disk) api.Errno { return d.Cut(0, 4) },
		func(d *Disk) api.Errno { return d.Cut(1, 2) },
	} {
		d := synced(t)
		is(t, "P9.2 what is loose", loosen(d), api.OK)
		was, _ := d.Read(0)
		is(t, "P9.4 Spoil", d.Spoil(0, 0, 1), api.ErrBusy)
		is(t, "P9.4 Spoil by nothing", d.Spoil(0, 0, 0), api.ErrBusy)
		is(t, "P9.4 Spoil of no file", d.Spoil(2, 0, 1), api.ErrNone)
		is(t, "P9.4 Spoil at -1", d.Spoil(0, -1, 1), api.ErrArg)
		is(t, "P9.4 Spoil beyond", d.Spoil(0, len(was), 1), api.ErrArg)
		shows(t, "P9.4 Spoil while something is loose", d, was)
		x := d.Copy()
		is(t, "P9.2 Sync", d.Sync(), api.OK)
		is(t, "P9.4 Spoil behind Sync", d.Spoil(0, 0, 1), api.OK)
		shows(t, "P9.4 Spoil behind Sync", d, "`"+was[1:])
		is(t, "P9.4 Crash", x.Crash(-1, 0), api.OK)
		is(t, "P9.4 Spoil behind Crash", x.Spoil(0, 0, 1), api.OK)
		shows(t, "P9.4 Spoil behind Crash", x, "`bcdef", "gh")
	}
}

// TestCopy: it is the same in all, with what is loose, and its fuse.
func TestCopy(t *testing.T) {
	d := synced(t)
	is(t, "P9.2 Write", d.Write(0, "123"), api.OK)
	is(t, "P9.2 Cut", d.Cut(1, 1), api.OK)
	is(t, "P9.3 Fuse", d.Fuse(2), api.OK)
	for _, x := range []*Disk{d.Copy(), d.Copy().Copy(), d} {
		shows(t, "P9.4 Copy", x, "abcdef123", "g")
		counts(t, "P9.4 Copy", x, 2, 98, 2)
		y := x.Copy()
		goesFor(t, "P9.4 Copy's fuse", y, 2)
		shows(t, "P9.4 Copy, its copy stands still", x, "abcdef123", "g")
		if s, err := y.Copy().Read(0); s != "" || err != api.ErrDown {
			t.Errorf("P9.4 Copy of a disk that stands still: %q, %v", s, err)
		}
		is(t, "P9.2 Write", x.Write(1, "xyz"), api.OK)
		is(t, "P9.4 Crash", x.Crash(2, 2), api.OK)
		shows(t, "P9.4 Copy, Crash", x, "abcdef123", "gxy")
	}
}

// TestCopyGoesOnByItself: whatever is done to one of both is not seen in the other, now or behind a crash.
func TestCopyGoesOnByItself(t *testing.T) {
	steps := map[string]func(d *Disk){
		"Write": func(d *Disk) { d.Write(0, "UVW"); d.Write(0, "X") },
		"Cut":   func(d *Disk) { d.Cut(0, 2); d.Write(0, "YZ"); d.Cut(1, 0) },
		"Sync":  func(d *Disk) { d.Sync(); d.Write(0, "S") },
		"Crash": func(d *Disk) { d.Crash(1, 1); d.Write(0, "CCCC") },
		"Spoil": func(d *Disk) { d.Sync(); d.Spoil(0, 0, 1); d.Spoil(0, 6, 1) },
		"Fuse":  func(d *Disk) { d.Fuse(0) },
		"all": func(d *Disk) {
			d.Crash(9, 9)
			d.Spoil(0, 0, 1)
			d.Cut(0, 1)
			d.Write(0, "T")
			d.Sync()
			d.Fuse(1)
		},
	}
	for about, step := range steps {
		for _, done := range []string{"the copy", "the first one"} {
			d := synced(t)
			is(t, "P9.2 Write", d.Write(0, "123"), api.OK)
			is(t, "P9.2 Write", d.Write(1, "4"), api.OK)
			x := d.Copy()
			if done == "the copy" {
				step(x)
				x = d
			} else {
				step(d)
			}
			about := fmt.Sprintf("P9.4 %s of %s", about, done)
			shows(t, about, x, "abcdef123", "gh4")
			counts(t, about, x, 2, 96, 2)
			is(t, about+": Write", x.Write(0, "56"), api.OK)
			shows(t, about, x, "abcdef12356", "gh4")
			is(t, about+": Crash", x.Crash(2, 1), api.OK)
			shows(t, about+", Crash", x, "abcdef1235", "gh4")
		}
	}
}

// TestCopyOfWhatIsSynced: where nothing is loose, too, each has bytes of its own, those that a crash goes back to among them.
func TestCopyOfWhatIsSynced(t *testing.T) {
	for _, done := range []string{"the copy", "the first one"} {
		d := synced(t)
		x := d.Copy()
		if done == "the copy" {
			d, x = x, d
		}
		is(t, "P9.4 Spoil of "+done, d.Spoil(0, 0, 1), api.OK)
		shows(t, "P9.4 Spoil of "+done, x, "abcdef", "gh")
		is(t, "P9.2 Write", x.Write(0, "ijk"), api.OK)
		is(t, "P9.2 Write", d.Write(0, "lmn"), api.OK)
		is(t, "P9.4 Crash", x.Crash(0, 1), api.OK)
		shows(t, "P9.4 Spoil of "+done+", Crash", x, "abcdefi", "gh")
		is(t, "P9.4 Crash", d.Crash(0, 2), api.OK)
		shows(t, "P9.4 Spoil of "+done+", its Crash", d, "`bcdeflm", "gh")
	}
}

// TestManyCopies: those of one disk write each its own.
func TestManyCopies(t *testing.T) {
	d := mustNew(t, 1, 1000)
	want := ""
	for i := range 100 {
		one := pattern(1, i)
		x := d.Copy()
		is(t, "P9.2 Write to a copy", x.Write(0, "other"), api.OK)
		is(t, "P9.2 Write", d.Write(0, one), api.OK)
		shows(t, "P9.4 Copy", x, want+"other")
		want += one
		shows(t, "P9.4 beside a copy", d, want)
		is(t, "P9.4 Crash of a copy", x.Crash(math.MaxInt, 0), api.OK)
		shows(t, "P9.4 Copy, Crash", x, want[:i]+"other")
		if i%10 == 9 {
			is(t, "P9.2 Sync", d.Sync(), api.OK)
		}
	}
}

// TestNoDisk: of a disk that is nil, or that New did not make.
func TestNoDisk(t *testing.T) {
	for _, d := range []*Disk{nil, {}, new(Disk)} {
		for range 2 {
			is(t, "P9.2 Write of none", d.Write(0, ""), api.ErrNil)
			is(t, "P9.2 Write of none", d.Write(-1, "a"), api.ErrNil)
			is(t, "P9.2 Cut of none", d.Cut(0, 0), api.ErrNil)
			is(t, "P9.2 Cut of none", d.Cut(-1, -1), api.ErrNil)
			is(t, "P9.2 Sync of none", d.Sync(), api.ErrNil)
			is(t, "P9.3 Fuse of none", d.Fuse(1), api.ErrNil)
			is(t, "P9.4 Crash of none", d.Crash(0, 0), api.ErrNil)
			is(t, "P9.4 Spoil of none", d.Spoil(0, 0, 0), api.ErrNil)
			is(t, "P9.4 Spoil of none", d.Spoil(-1, -1, 0), api.ErrNil)
			if s, err := d.Read(0); s != "" || err != api.ErrNil {
				t.Errorf("P9.3 Read of none: %q, %v", s, err)
			}
			counts(t, "P9.1 of none", d, 0, 0, 0)
			if d.Copy() != nil {
				t.Error("P9.4 Copy of none is a disk")
			}
		}
		is(t, "P9.3 Fuse of none", d.Fuse(-1), api.ErrNil)
		is(t, "P9.2 Sync of none", d.Sync(), api.ErrNil)
	}
}

// By the chapter's words

// plain is a disk by the chapter's words, made by no function of this package: it does nothing again, but keeps how all files were behind each call.
type plain struct {
	room, fuse int
	rows       [][]string // of all files: at the last Sync, then behind each call that is loose
	calls      []call     // that are loose
}

// call is a call of Write, or of Cut.
type call struct {
	cut  bool
	file int
	n    int
	text string
}

func plainDisk(files, room int) *plain {
	return &plain{room: room, fuse: -1, rows: [][]string{make([]string, files)}}
}

func (p *plain) now() []string { return p.rows[len(p.rows)-1] }

// left is how many bytes more there is room for.
func (p *plain) left() int { return p.room - len(strings.Join(p.now(), "")) }

// down tells whether the disk stands still; if not, a call burns the fuse.
func (p *plain) down() bool {
	if p.fuse > 0 {
		p.fuse--
		return false
	}
	return p.fuse == 0
}

// does does a call of Write or Cut.
func (p *plain) does(c call) api.Errno {
	if p.down() {
		return api.ErrDown
	}
	row := slices.Clone(p.now())
	if c.file < 0 || c.file >= len(row) {
		return api.ErrNone
	}
	if c.cut {
		if c.n < 0 || c.n > len(row[c.file]) {
			return api.ErrArg
		}
		row[c.file] = row[c.file][:c.n]
	} else {
		if len(c.text) > p.left() {
			return api.ErrFull
		}
		row[c.file] += c.text
	}
	p.rows, p.calls = append(p.rows, row), append(p.calls, c)
	return api.OK
}

func (p *plain) sync() api.Errno {
	if p.down() {
		return api.ErrDown
	}
	p.rows, p.calls = [][]string{p.now()}, nil
	return api.OK
}

func (p *plain) crash(calls, bytes int) {
	done := min(max(calls, 0), len(p.calls))
	row := slices.Clone(p.rows[done])
	if calls >= 0 && done < len(p.calls) && !p.calls[done].cut {
		c := p.calls[done]
		row[c.file] += c.text[:min(max(bytes, 0), len(c.text))]
	}
	p.rows, p.calls, p.fuse = [][]string{row}, nil, -1
}

func (p *plain) spoil(file, at int, by byte) api.Errno {
	row := slices.Clone(p.now())
	switch {
	case file < 0 || file >= len(row):
		return api.ErrNone
	case at < 0 || at >= len(row[file]):
		return api.ErrArg
	case len(p.calls) > 0:
		return api.ErrBusy
	}
	b := []byte(row[file])
	b[at] ^= by
	row[file] = string(b)
	p.rows = [][]string{row}
	return api.OK
}

func (p *plain) copied() *plain {
	c := *p
	c.rows, c.calls = slices.Clone(p.rows), slices.Clone(p.calls)
	return &c
}

// alike says where a disk is another one than by the chapter's words.
func alike(t *testing.T, about string, d *Disk, p *plain) {
	t.Helper()
	counts(t, about, d, len(p.now()), p.left(), len(p.calls))
	if p.fuse != 0 {
		shows(t, about, d, p.now()...)
		return
	}
	for i := range p.now() {
		if s, err := d.Read(i); s != "" || err != api.ErrDown {
			t.Errorf("%s: file %d of a disk that stands still: %q, %v", about, i, s, err)
		}
	}
}

// does does a call of Write or Cut on a disk.
func (c call) does(d *Disk) api.Errno {
	if c.cut {
		return d.Cut(c.file, c.n)
	}
	return d.Write(c.file, c.text)
}

// crashes says where a crash, with few or many calls and bytes, leaves something else; each is of a copy.
func crashes(t *testing.T, about string, d *Disk, p *plain) {
	t.Helper()
	for calls := -1; calls <= len(p.calls)+1; calls++ {
		for bytes := -1; bytes <= 4; bytes++ {
			x, y := d.Copy(), p.copied()
			is(t, "P9.4 Crash", x.Crash(calls, bytes), api.OK)
			y.crash(calls, bytes)
			alike(t, fmt.Sprintf("%s, Crash(%d, %d)", about, calls, bytes), x, y)
		}
	}
}

// rowsOf goes through all rows of so many of n things.
func rowsOf(length, n int, each func(row []int)) {
	row := make([]int, length)
	for {
		each(row)
		i := 0
		for ; i < length && row[i] == n-1; i++ {
			row[i] = 0
		}
		if i == length {
			return
		}
		row[i]++
	}
}

// TestEachRowOfCalls: all rows of a few calls, with all crashes behind them.
func TestEachRowOfCalls(t *testing.T) {
	steps := []call{
		{file: 0, text: "abc"},
		{file: 0, text: ""},
		{file: 1, text: "de"},
		{cut: true, file: 0, n: 0},
		{cut: true, file: 0, n: 1},
		{cut: true, file: 1, n: 2},
	}
	rowsOf(4, len(steps)+1, func(row []int) {
		d, p := mustNew(t, 2, 9), plainDisk(2, 9)
		for i, n := range row {
			about := fmt.Sprintf("P9.4 calls %v, behind call %d", row, i)
			if n == len(steps) {
				is(t, about+": Sync", d.Sync(), p.sync())
			} else {
				is(t, about, steps[n].does(d), p.does(steps[n]))
			}
			alike(t, about, d, p)
		}
		crashes(t, fmt.Sprintf("P9.4 calls %v", row), d, p)
	})
}

// draws are numbers that look like chance, the same at each run.
type draws struct{ state uint64 }

// next is a number from 0 to below n.
func (d *draws) next(n int) int {
	d.state = d.state*6364136223846793005 + 1442695040888963407
	return int((d.state >> 33) % uint64(n))
}

// call is a call of Write or Cut on a disk that is as p; often a right one.
func (d *draws) call(p *plain) call {
	file := d.next(len(p.now())+2) - 1
	if d.next(3) > 0 {
		return call{file: file, text: pattern(d.next(9), d.next(256))}
	}
	n := 0
	if file >= 0 && file < len(p.now()) {
		n = len(p.now()[file])
	}
	return call{cut: true, file: file, n: d.next(n+3) - 1}
}

// step does something to a disk and to the one by the chapter's words, and says where it is answered otherwise.
func (d *draws) step(t *testing.T, x *Disk, p *plain) {
	t.Helper()
	switch k := d.next(20); {
	case k < 12:
		c := d.call(p)
		is(t, fmt.Sprintf("P9.2 %+v", c), c.does(x), p.does(c))
	case k < 15:
		is(t, "P9.2 Sync", x.Sync(), p.sync())
	case k < 17:
		calls, bytes := d.next(len(p.calls)+3)-1, d.next(10)-1
		is(t, "P9.4 Crash", x.Crash(calls, bytes), api.OK)
		p.crash(calls, bytes)
	case k < 19:
		file, at, by := d.next(len(p.now())+2)-1, d.next(30)-1, byte(d.next(256))
		is(t, fmt.Sprintf("P9.4 Spoil(%d, %d, %d)", file, at, by), x.Spoil(file, at, by), p.spoil(file, at, by))
	default:
		n := d.next(9) - 2
		is(t, "P9.3 Fuse", x.Fuse(n), api.OK)
		p.fuse = max(n, -1)
	}
}

// TestAsTheChapterSays: rows of all calls, on disks and on copies of them that go on.
func TestAsTheChapterSays(t *testing.T) {
	for seed := range 60 {
		d := &draws{state: uint64(seed)}
		files, room := 1+d.next(4), d.next(120)
		disks, plains := []*Disk{mustNew(t, files, room)}, []*plain{plainDisk(files, room)}
		for i := range 300 {
			at := d.next(len(disks))
			if d.next(30) == 0 {
				disks, plains = append(disks, disks[at].Copy()), append(plains, plains[at].copied())
			}
			d.step(t, disks[at], plains[at])
			for j := range disks {
				alike(t, fmt.Sprintf("P9.4 row %d, step %d, disk %d of %d", seed, i, j, len(disks)), disks[j], plains[j])
			}
			if t.Failed() {
				return
			}
		}
		for j := range disks {
			crashes(t, fmt.Sprintf("P9.4 row %d, disk %d", seed, j), disks[j], plains[j])
		}
	}
}

// P9.5

// eachCrash goes through copies of a disk behind crashes at each of its loose calls.
func eachCrash(t *testing.T, d *Disk, each func(about string, x *Disk)) {
	t.Helper()
	for calls := -1; calls <= d.Loose()+1; calls++ {
		for _, bytes := range []int{-1, 0, 1, 3, 99} {
			x := d.Copy()
			is(t, "P9.4 Crash", x.Crash(calls, bytes), api.OK)
			each(fmt.Sprintf("P9.5 Crash(%d, %d)", calls, bytes), x)
		}
	}
}

// TestSyncedIsThere: whatever was done behind the last Sync; of three files the last one is never cut.
func TestSyncedIsThere(t *testing.T) {
	for seed := range 200 {
		r := &draws{state: uint64(seed) + 1000}
		d := mustNew(t, 3, 400)
		stays := make([]string, 3)
		for i := range stays {
			stays[i] = pattern(r.next(20), r.next(256))
			is(t, "P9.2 Write", d.Write(i, stays[i]), api.OK)
		}
		is(t, "P9.2 Sync", d.Sync(), api.OK)
		for range 12 {
			file := r.next(3)
			s, _ := d.Read(file)
			if r.next(3) == 0 && file < 2 {
				n := r.next(len(s) + 1)
				is(t, "P9.2 Cut", d.Cut(file, n), api.OK)
				stays[file] = stays[file][:min(n, len(stays[file]))]
			} else {
				is(t, "P9.2 Write", d.Write(file, pattern(r.next(9), r.next(256))), api.OK)
			}
		}
		all, _ := d.Read(2)
		eachCrash(t, d, func(about string, x *Disk) {
			for file, want := range stays {
				if s, err := x.Read(file); err != api.OK || !strings.HasPrefix(s, want) {
					t.Errorf("%s: file %d has %q, %v, want %q in front", about, file, s, err, want)
				}
			}
			if s, _ := x.Read(2); !strings.HasPrefix(all, s) {
				t.Errorf("%s: a file that is never cut has %q, want a beginning of %q", about, s, all)
			}
		})
		if t.Failed() {
			return
		}
	}
}

// TestOneOrder: of several files, what is there of one call is there only if all calls ahead of it are.
func TestOneOrder(t *testing.T) {
	d := mustNew(t, 3, 100)
	all := ""
	for i := range 9 {
		one := pattern(3, i)
		is(t, "P9.2 Write", d.Write(i%3, one), api.OK)
		all += one
	}
	for calls := range 10 {
		for bytes := range 4 {
			x := d.Copy()
			is(t, "P9.4 Crash", x.Crash(calls, bytes), api.OK)
			got := ""
			for i := range 9 {
				s, _ := x.Read(i % 3)
				got += s[min(len(s), i/3*3):min(len(s), i/3*3+3)]
			}
			if n := min(27, calls*3+bytes); got != all[:n] {
				t.Errorf("P9.5 Crash(%d, %d): %x, want %x", calls, bytes, got, all[:n])
			}
		}
	}
}

// TestManyCalls: a disk of the most room, written byte by byte, and crashed within it.
func TestManyCalls(t *testing.T) {
	const n = 1 << 19
	d := mustNew(t, 1, n)
	all := pattern(n, 0)
	for i := range n {
		if err := d.Write(0, all[i:i+1]); err != api.OK {
			t.Fatalf("P9.2 Write of byte %d: %v", i, err)
		}
		if i%4096 == 4095 && i < n/2 {
			is(t, "P9.2 Sync", d.Sync(), api.OK)
		}
	}
	counts(t, "P9.2 Write byte by byte", d, 1, 0, n/2)
	shows(t, "P9.2 Write byte by byte", d, all)
	is(t, "P9.4 Crash", d.Crash(1000, 1), api.OK)
	shows(t, "P9.5 Crash within many calls", d, all[:n/2+1001])
	counts(t, "P9.5 Crash within many calls", d, 1, n/2-1001, 0)
}
