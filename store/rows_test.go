package store_test

import (
	"fmt"
	"slices"
	"strings"
	"testing"

	"scrinium/api"
	"scrinium/disk"
	"scrinium/store"
)

// tell is all that is seen of a store, in the form of plain.tell.
func tell(s *store.Store) string {
	var b strings.Builder
	epoch, own := s.Owned()
	fmt.Fprintln(&b, s.State(), epoch, slices.Concat(own), s.Prepared(), s.Down())
	for _, id := range txids {
		fmt.Fprintln(&b, id, s.Committed(id), s.Refused(id))
	}
	for _, p := range append(paths, "", "A") {
		fmt.Fprintln(&b, p, s.Has(p), s.Now(p), s.Last(p))
		for n := range uint64(4) {
			fmt.Fprintln(&b, fmt.Sprint(s.Read(p, n)))
		}
		l, e := s.List(p)
		fmt.Fprintf(&b, "%q %v\n", l, e)
	}
	for _, x := range []api.Range{all, {From: 1 << 63, To: 1<<64 - 1}, {From: 1}} {
		l, e := s.Export(x)
		fmt.Fprintln(&b, slices.Concat(l), e)
	}
	return b.String()
}

// filesOf are the bytes of a disk's files, also of one that stands still.
func filesOf(d *disk.Disk) []string {
	c := d.Copy()
	c.Fuse(-1)
	l := make([]string, c.Files())
	for i := range l {
		l[i], _ = c.Read(i)
	}
	return l
}

// both is a store, and one by the chapter's words beside it.
type both struct {
	t      *testing.T
	disk   *disk.Disk
	store  *store.Store
	plain  *plain
	shares []string
	fused  int      // the calls that the disks go; below 0, if they always do
	row    []string // the calls till now
	wrong  []string // those of them that had an error
}

// bothOf are empty, of disks of their own.
func bothOf(t *testing.T, c api.StoreConf, room int) *both {
	t.Helper()
	d := mustDisk(t, c.Wal.Files, room)
	return &both{t: t, disk: d, store: mustMake(t, d, c), plain: newPlain(c, room), fused: -1}
}

// same says where an answer is another one than that by the chapter's words.
func (b *both) same(promise, call, got, want string) {
	b.t.Helper()
	b.row = append(b.row, call)
	if !strings.HasSuffix(got, "error 0") {
		b.wrong = append(b.wrong, call+": "+got)
	}
	if got != want {
		b.t.Fatalf("%s %s: %.300s, want %.300s, behind %s", promise, call, got, want, b.last())
	}
}

// last are the calls of late.
func (b *both) last() string { return strings.Join(b.row[max(0, len(b.row)-12):], "; ") }

// shows says where what is seen, or what is on the disk, is another one.
func (b *both) shows(promise string) {
	b.t.Helper()
	if got, want := tell(b.store), b.plain.tell(); got != want {
		b.t.Fatalf("%s it shows another thing behind %s:\n%s", promise, b.last(), apart(got, want))
	}
	if got, want := filesOf(b.disk), filesOf(b.plain.disk); !slices.Equal(got, want) {
		b.t.Fatalf("%s the disk has\n%x, want\n%x, behind %s", promise, got, want, b.last())
	}
	if got, want := b.disk.Loose(), b.plain.disk.Loose(); got != want {
		b.t.Fatalf("%s %d calls of the disk are loose, want %d, behind %s", promise, got, want, b.last())
	}
}

// apart is the first line in which two texts are not the same.
func apart(got, want string) string {
	l, m := strings.Split(got, "\n"), strings.Split(want, "\n")
	for i := range min(len(l), len(m)) {
		if l[i] != m[i] {
			return fmt.Sprintf("%.400q, want\n%.400q", l[i], m[i])
		}
	}
	return "one is longer"
}

// fuse lets both disks stand still behind so many calls more.
func (b *both) fuse(n int) {
	b.row, b.fused = append(b.row, fmt.Sprintf("fuse %d", n)), n
	b.disk.Fuse(n)
	b.plain.disk.Fuse(n)
}

func (b *both) begin(root, key, nonce string, l ...string) {
	b.t.Helper()
	got, e := b.store.Begin(root, key, nonce, l...)
	want, f := b.plain.begin(root, key, nonce, l...)
	b.same("P19.2", "Begin", fmt.Sprintf("%x %v", got, e), fmt.Sprintf("%x %v", want, f))
	if e == api.OK {
		b.shares = got
	}
}

func (b *both) unseal(share string) {
	b.t.Helper()
	got, e := b.store.Unseal(share)
	want, f := b.plain.bar.Unseal(share)
	b.same("P19.2", "Unseal", fmt.Sprint(got, e), fmt.Sprint(want, f))
}

func (b *both) seal() {
	b.t.Helper()
	b.same("P19.2", "Seal", fmt.Sprint(b.store.Seal()), fmt.Sprint(b.plain.bar.Seal()))
}

func (b *both) rotate(key, nonce string) {
	b.t.Helper()
	got, e := b.store.Rotate(key, nonce)
	want, f := b.plain.rotate(key, nonce)
	b.same("P19.2", "Rotate", fmt.Sprint(got, e), fmt.Sprint(want, f))
}

func (b *both) own(epoch uint64, l ...api.Range) {
	b.t.Helper()
	b.same("P19.2", fmt.Sprint("Own ", epoch, l), fmt.Sprint(b.store.Own(epoch, l...)), fmt.Sprint(b.plain.owns(epoch, l...)))
}

func (b *both) prepare(id api.Txid, x api.Batch, note, nonce string) {
	b.t.Helper()
	got, at, e := b.store.Prepare(id, x, note, nonce)
	want, place, f := b.plain.prepare(id, x, note, nonce)
	b.same("P19.3", fmt.Sprintf("Prepare %v %.300s", id, fmt.Sprint(x)), fmt.Sprint(slices.Concat(got), at, e), fmt.Sprint(slices.Concat(want), place, f))
}

func (b *both) decide(id api.Txid, commit bool) {
	b.t.Helper()
	b.same("P19.4", fmt.Sprint("Decide ", id, commit), fmt.Sprint(b.store.Decide(id, commit)), fmt.Sprint(b.plain.decide(id, commit)))
}

func (b *both) refuse(id api.Txid) {
	b.t.Helper()
	b.same("P19.4", fmt.Sprint("Refuse ", id), fmt.Sprint(b.store.Refuse(id)), fmt.Sprint(b.plain.refuse(id)))
}

func (b *both) low(id api.Txid) {
	b.t.Helper()
	b.same("P19.4", fmt.Sprint("Low ", id), fmt.Sprint(b.store.Low(id)), fmt.Sprint(b.plain.lower(id)))
}

func (b *both) checkpoint() {
	b.t.Helper()
	b.same("P19.6", "Checkpoint", fmt.Sprint(b.store.Checkpoint()), fmt.Sprint(b.plain.checkpoint(b.fused)))
}

// crash leaves so many calls of what is loose, and so many bytes of the next one; then both are opened again.
func (b *both) crash(calls, bytes int) {
	b.t.Helper()
	b.row, b.fused = append(b.row, fmt.Sprintf("crash %d %d", calls, bytes)), -1
	b.disk.Crash(calls, bytes)
	b.plain.crash(calls, bytes)
	s, e := store.Open(b.disk, b.plain.conf)
	if s == nil || e != api.OK {
		b.t.Fatalf("P19.7 Open: %v, behind %s", e, b.last())
	}
	b.store = s
}

// reopened are both behind a crash, looked at sealed, and unsealed.
func (b *both) reopened(calls, bytes int) {
	b.t.Helper()
	b.crash(calls, bytes)
	b.shows("P19.7")
	if b.plain.bar.State() == api.BarSealed {
		for _, share := range b.shares {
			b.unseal(share)
		}
		b.shows("P19.7")
	}
}

// dice are numbers that look as if by chance, and are the same in each run.
type dice uint64

// upTo is the next one, from 0 to n - 1.
func (d *dice) upTo(n int) int {
	*d = *d*6364136223846793005 + 1442695040888963407
	return int(uint64(*d) >> 33 % uint64(n))
}

// one is one of a list.
func one[T any](d *dice, l []T) T { return l[d.upTo(len(l))] }

// free is whether a path is touched by nothing that is prepared.
func (b *both) free(p string) bool {
	for _, h := range b.plain.now.held {
		x := h.Batch
		if x.Drop && isIn(x.Range, p) ||
			slices.ContainsFunc(x.Edits, func(e api.Edit) bool { return e.Path == p }) ||
			slices.ContainsFunc(x.Rows, func(r api.Row) bool { return r.Path == p }) {
			return false
		}
	}
	return true
}

// someRange is a range in which some of the paths are.
func someRange(d *dice) api.Range {
	from, to := placeOf(one(d, paths)), placeOf(one(d, paths))
	return api.Range{From: min(from, to), To: max(from, to)}
}

// someEdit is an edit of a path.
func someEdit(d *dice, p string) api.Edit {
	text := strings.Repeat(one(d, []string{"x", "secret ", "\x00"}), d.upTo(5))
	return api.Edit{Kind: []uint8{1, 1, 1, 1, 1, 2, 3}[d.upTo(7)], Path: p, Any: d.upTo(3) > 0, Want: uint64(d.upTo(3)), N: uint64(1 + d.upTo(3)), Text: text}
}

// someRow is a row of a path.
func someRow(d *dice, p string) api.Row {
	r := api.Row{Path: p}
	for range 1 + d.upTo(3) {
		r.Cell.Last += uint64(1 + d.upTo(2))
		v := api.Version{N: r.Cell.Last, State: uint8(1 + d.upTo(3))}
		if v.State == api.VerLive {
			v.Text = strings.Repeat("row ", d.upTo(3))
		}
		r.Cell.L = append(r.Cell.L, v)
	}
	return r
}

// someBatch is a batch that touches nothing which is prepared.
func (b *both) someBatch(d *dice) api.Batch {
	var x api.Batch
	if d.upTo(5) == 0 {
		r := someRange(d)
		x.Drop, x.Range = true, r
		for _, p := range paths {
			if isIn(r, p) && !b.free(p) {
				x.Drop = false
			}
		}
	}
	for _, p := range paths {
		if !b.free(p) {
			continue
		}
		switch d.upTo(6) {
		case 0, 1:
			for range 1 + d.upTo(3) {
				x.Edits = append(x.Edits, someEdit(d, p))
			}
		case 2:
			if b.plain.now.cells[p].Last == 0 || d.upTo(8) == 0 {
				x.Rows = append(x.Rows, someRow(d, p))
			}
		}
	}
	if d.upTo(6) == 0 {
		x.Map = uint64(1 + d.upTo(5))
		x.Own = []api.Range{someRange(d), someRange(d)}[:d.upTo(3)]
	}
	return x
}

// step does one call, on both.
func (b *both) step(d *dice) {
	b.t.Helper()
	id := one(d, txids)
	switch d.upTo(20) {
	case 0:
		b.begin(one(d, []string{root, root[:31]}), key(1), draw(d.upTo(9)), other)
	case 1:
		if d.upTo(6) == 0 {
			b.seal()
		}
	case 2, 3, 4:
		b.unseal(one(d, append(b.shares, "\x01\x02"+other)))
	case 5:
		b.rotateSome(d)
	case 6:
		b.own(b.plain.now.epoch+uint64(d.upTo(3)), []api.Range{someRange(d), someRange(d), {From: uint64(d.upTo(4)), To: 2}}[:d.upTo(4)]...)
	case 7, 8, 9, 10, 11, 12:
		b.prepare(id, b.someBatch(d), strings.Repeat("note", d.upTo(3)), draw(d.upTo(9)))
	case 13:
		b.decide(id, d.upTo(3) > 0)
	case 14, 15, 16:
		b.decide(one(d, append(inOrder(b.plain.now.held), id)), d.upTo(4) > 0)
	case 17:
		if d.upTo(3) == 0 {
			b.refuse(id)
		}
	case 18:
		if d.upTo(3) == 0 {
			b.low(b.nextLow(d))
		}
	case 19:
		if d.upTo(4) == 0 {
			b.checkpoint()
		}
	}
}

// nextLow is one that is a little above the low one, or that, or one below.
func (b *both) nextLow(d *dice) api.Txid {
	at := slices.IndexFunc(txids, func(id api.Txid) bool { return !less(id, b.plain.now.low) })
	return txids[min(max(at+d.upTo(4)-1, 0), len(txids)-1)]
}

// rotateSome takes another key, or what is none, or a draw that is none, as long as the ring is short.
func (b *both) rotateSome(d *dice) {
	b.t.Helper()
	if len(b.plain.bar.Epochs()) < 5 {
		b.rotate(key(d.upTo(5))[:32-d.upTo(5)/4], draw(d.upTo(9))[:12-d.upTo(5)/4])
	}
}

// TestAsTheChapterSays: long rows of calls, with disks that stand still, and crashes, beside a store by the chapter's words: each answer, all that is seen, and each byte of the disk.
func TestAsTheChapterSays(t *testing.T) {
	for _, c := range []struct {
		conf  api.StoreConf
		room  int
		steps int
	}{
		{large, 1 << 18, 500},
		{api.StoreConf{Wal: api.WalConf{Files: 3, Size: 500, Check: 2000}, Quota: api.Quota{Paths: 8, Bytes: 700}}, 1 << 14, 500},
		{api.StoreConf{Wal: api.WalConf{Files: 4, Size: 700, Check: 1200}, Quota: api.Quota{Paths: 100, Bytes: 1 << 20}}, 2600, 500},
		{api.StoreConf{Wal: api.WalConf{Files: 16, Size: 100, Check: 5000}, Quota: api.Quota{Paths: 7, Bytes: 1000}}, 1 << 14, 500},
	} {
		for seed := range 4 {
			d := dice(seed)
			b := bothOf(t, c.conf, c.room)
			if seed > 0 {
				b.begin(root, key(0), draw(0), other)
			}
			for range c.steps {
				if d.upTo(12) == 0 {
					b.fuse(d.upTo(5))
				}
				b.step(&d)
				switch stands := b.plain.log.Down() != api.OK; {
				case stands || b.plain.down || d.upTo(25) == 0:
					b.reopened(d.upTo(4)-1, d.upTo(18))
				default:
					b.fuse(-1)
					b.shows("P19.2")
				}
			}
		}
	}
}

// story is a row of calls, with what is prepared over checkpoints, in a log whose files are full soon.
func story() []func(b *both) {
	edit := func(kind uint8, p, text string) api.Edit {
		return api.Edit{Kind: kind, Path: p, Any: true, N: 1, Text: text}
	}
	id := func(i int) api.Txid { return txids[i] }
	gone := placeOf("a/d")
	live := []api.Version{{N: 3, State: api.VerLive, Text: "row"}, {N: 9, State: api.VerDead}}
	return []func(b *both){
		func(b *both) { b.own(1, all) },
		func(b *both) { b.begin(root, key(0), draw(0), other) },
		func(b *both) { b.own(2, api.Range{From: 5, To: 1 << 63}) },
		func(b *both) {
			b.prepare(id(3), api.Batch{Edits: []api.Edit{edit(1, "a", "one"), edit(1, "a", "two"), edit(1, "a/d", "")}}, "note", draw(1))
		},
		func(b *both) { b.decide(id(3), true) },
		func(b *both) { b.refuse(id(4)) },
		func(b *both) { b.low(id(2)) },
		func(b *both) {
			b.prepare(id(5), api.Batch{Edits: []api.Edit{edit(1, "a/b", "four")}, Rows: []api.Row{{Path: "e.f", Cell: api.Cell{Last: 9, L: live}}}, Map: 7, Own: []api.Range{all}}, "", draw(2))
		},
		func(b *both) { b.rotate(key(1), draw(3)) },
		func(b *both) {
			b.prepare(id(6), api.Batch{Edits: []api.Edit{edit(3, "a", "")}, Drop: true, Range: api.Range{From: gone, To: gone}}, "drops", draw(4))
		},
		func(b *both) { b.checkpoint() },
		func(b *both) { b.decide(id(5), true) },
		func(b *both) { b.low(id(4)) },
		func(b *both) { b.low(id(7)) },
		func(b *both) { b.checkpoint() },
		func(b *both) { b.prepare(id(9), api.Batch{Edits: []api.Edit{edit(2, "a/b", "")}}, "", draw(5)) },
		func(b *both) { b.decide(id(6), true) },
		func(b *both) { b.refuse(id(10)) },
		func(b *both) { b.decide(id(9), false) },
		func(b *both) { b.prepare(id(11), api.Batch{}, "nothing", draw(6)) },
		func(b *both) { b.checkpoint() },
		func(b *both) { b.decide(id(11), true) },
	}
}

// TestCrashAnywhere: at each call of the disk of each call of a story, with each way in which what was not synced is kept or lost: it is as it was behind the call ahead, or behind that which was under way; and the story goes on.
func TestCrashAnywhere(t *testing.T) {
	c := api.StoreConf{Wal: api.WalConf{Files: 9, Size: 200, Check: 3000}, Quota: large.Quota}
	steps := story()
	whole := bothOf(t, c, 1<<14)
	for _, step := range steps {
		step(whole)
		whole.shows("P19.7")
	}
	if len(whole.wrong) > 0 {
		t.Fatalf("P19.7 a story with errors: %q", whole.wrong)
	}
	for k := range steps {
		done := false
		for fuse := 0; !done; fuse++ {
			loose := 1
			for calls := -1; calls <= loose; calls++ {
				for _, bytes := range []int{0, 1, 17} {
					b := bothOf(t, c, 1<<14)
					for _, step := range steps[:k] {
						step(b)
					}
					b.fuse(fuse)
					steps[k](b)
					done, loose = b.plain.log.Down() == api.OK, b.disk.Loose()
					b.reopened(calls, bytes)
					if done {
						for _, step := range steps[k+1:] {
							step(b)
						}
						b.shows("P19.7")
					}
				}
			}
		}
	}
}
