package store_test

import (
	"encoding/binary"
	"fmt"
	"maps"
	"slices"
	"strings"

	"scrinium/api"
	"scrinium/barrier"
	"scrinium/cell"
	"scrinium/disk"
	"scrinium/path"
	"scrinium/sha"
	"scrinium/wal"
	"scrinium/wire"
)

// state is what a store has for good, by the chapter's words; none is ever changed.
type state struct {
	header string
	cells  map[string]api.Cell // their texts are envelopes
	epoch  uint64
	own    []api.Range
	held   map[api.Txid]api.Held
	yes    map[api.Txid]int // those that were committed
	no     map[api.Txid]int // those that were refused
	low    api.Txid
}

// copied is the same, to be made into another one.
func (x state) copied() state {
	x.cells, x.held, x.yes, x.no = maps.Clone(x.cells), maps.Clone(x.held), maps.Clone(x.yes), maps.Clone(x.no)
	return x
}

// plain is a store by the chapter's words, made by no function of this package, on a log of its own.
type plain struct {
	conf api.StoreConf
	disk *disk.Disk
	log  *wal.Wal
	down bool
	bar  *barrier.Barrier
	now  state
	// What a crash may leave: what was there at the last sync, and behind each write since.
	base  state
	loose []state
}

// less is whether a is ordered ahead of b.
func less(a, b api.Txid) bool { return a.Life < b.Life || a.Life == b.Life && a.N < b.N }

// inOrder is transactions, rising.
func inOrder[T any](m map[api.Txid]T) []api.Txid {
	return slices.SortedFunc(maps.Keys(m), func(a, b api.Txid) int {
		switch {
		case less(a, b):
			return -1
		case less(b, a):
			return 1
		}
		return 0
	})
}

// placeOf is a path's place.
func placeOf(p string) uint64 { return binary.BigEndian.Uint64([]byte(sha.Of(p))) }

// isIn is whether a path's place is in a range.
func isIn(x api.Range, p string) bool { return placeOf(p) >= x.From && placeOf(p) <= x.To }

// nonceOf is the nonce of the i-th envelope of a record of a number.
func nonceOf(draw string, number, i uint64) string {
	if len(draw) != 12 {
		return draw
	}
	b := []byte(draw)
	binary.BigEndian.PutUint64(b[4:], binary.BigEndian.Uint64(b[4:])^(64*number+i))
	return string(b)
}

func rangesBytes(l []api.Range) string {
	s := wire.Uints(uint64(len(l)))
	for _, x := range l {
		s += wire.Uints(x.From, x.To)
	}
	return s
}

func rowsBytes(l []api.Row) string {
	s := wire.Uints(uint64(len(l)))
	for _, r := range l {
		s += wire.Texts(r.Path) + wire.Uints(r.Cell.Last, uint64(len(r.Cell.L)))
		for _, v := range r.Cell.L {
			s += wire.Uints(v.N, uint64(v.State)) + wire.Texts(v.Text)
		}
	}
	return s
}

func heldBytes(h api.Held) string {
	b := h.Batch
	s := wire.Uints(h.Id.Life, h.Id.N) + wire.Texts(h.Note) + wire.Uints(uint64(len(b.Edits)))
	for _, e := range b.Edits {
		s += wire.Uints(uint64(e.Kind)) + wire.Texts(e.Path) + wire.Bools(e.Any) + wire.Uints(e.Want, e.N) + wire.Texts(e.Text)
	}
	return s + rowsBytes(b.Rows) + wire.Bools(b.Drop) + wire.Uints(b.Range.From, b.Range.To, b.Map) + rangesBytes(b.Own)
}

func idsBytes(l []api.Txid) string {
	s := wire.Uints(uint64(len(l)))
	for _, id := range l {
		s += wire.Uints(id.Life, id.N)
	}
	return s
}

// rows are all of a state's, rising.
func (x state) rows() []api.Row {
	var l []api.Row
	for _, p := range slices.Sorted(maps.Keys(x.cells)) {
		l = append(l, api.Row{Path: p, Cell: x.cells[p]})
	}
	return l
}

// bytes is the text of a checkpoint.
func (x state) bytes() string {
	s := wire.Texts(x.header) + wire.Uints(x.low.Life, x.low.N, x.epoch) + rangesBytes(x.own) + rowsBytes(x.rows())
	s += wire.Uints(uint64(len(x.held)))
	for _, id := range inOrder(x.held) {
		s += heldBytes(x.held[id])
	}
	return s + idsBytes(inOrder(x.yes)) + idsBytes(inOrder(x.no))
}

// newPlain is an empty one, on a disk of its own.
func newPlain(c api.StoreConf, room int) *plain {
	d, _ := disk.New(c.Wal.Files, room)
	w, err := wal.Make(d, c.Wal, "")
	if err != api.OK {
		panic("no log: " + err.Error())
	}
	x := state{cells: map[string]api.Cell{}, held: map[api.Txid]api.Held{}, yes: map[api.Txid]int{}, no: map[api.Txid]int{}}
	return &plain{conf: c, disk: d, log: w, bar: barrier.New(), now: x, base: x}
}

// told keeps that the log has told an error by which it is down.
func (p *plain) told(e api.Errno) api.Errno {
	if e != api.OK && e != api.ErrFull && e != api.ErrLong {
		p.down = true
	}
	return e
}

// keep writes a record, behind which a state is there.
func (p *plain) keep(use int, record string, sync bool, next state) api.Errno {
	if p.down {
		return api.ErrState
	}
	if _, e := p.log.Append(use, record); p.told(e) != api.OK {
		return e
	}
	p.loose = append(p.loose, next)
	if sync {
		if e := p.told(p.log.Sync()); e != api.OK {
			return e
		}
		p.base, p.loose = next, nil
	}
	p.now = next
	return api.OK
}

// header keeps the barrier's header.
func (p *plain) header() api.Errno {
	next := p.now.copied()
	next.header = p.bar.Header()
	e := p.keep(0, "\x01"+wire.Texts(next.header), true, next)
	p.down = p.down || e != api.OK
	return e
}

func (p *plain) begin(root, key, nonce string, l ...string) ([]string, api.Errno) {
	b := p.bar
	if p.down && b.State() == api.BarNone {
		b = barrier.New()
	}
	shares, e := b.Begin(root, key, nonceOf(nonce, p.log.Next(), 63), l...)
	if e == api.OK {
		e = p.header()
	}
	if e != api.OK {
		return nil, e
	}
	return shares, e
}

func (p *plain) rotate(key, nonce string) (uint32, api.Errno) {
	epoch, e := p.bar.Rotate(key, nonceOf(nonce, p.log.Next(), 63))
	if e == api.OK {
		e = p.header()
	}
	if e != api.OK {
		return 0, e
	}
	return epoch, e
}

func (p *plain) owns(epoch uint64, l ...api.Range) api.Errno {
	for _, x := range l {
		if x.From > x.To {
			return api.ErrArg
		}
	}
	if epoch <= p.now.epoch {
		return api.ErrArg
	}
	next := p.now.copied()
	next.epoch, next.own = epoch, slices.Clone(l)
	return p.keep(0, wire.Uints(6, epoch)+rangesBytes(l), true, next)
}

func (p *plain) opened() api.Errno {
	return map[uint8]api.Errno{api.BarNone: api.ErrState, api.BarSealed: api.ErrSealed, api.BarOpen: api.OK}[p.bar.State()]
}

// has is whether a path's place is in one of its ranges.
func (p *plain) has(s string) bool {
	return slices.ContainsFunc(p.now.own, func(x api.Range) bool { return isIn(x, s) })
}

func (p *plain) refused(id api.Txid) bool {
	_, is := p.now.no[id]
	return is || less(id, p.now.low)
}

func (p *plain) committed(id api.Txid) bool {
	_, is := p.now.yes[id]
	return is && !less(id, p.now.low)
}

// may is whether a batch may be, whatever its texts are.
func may(b api.Batch) bool {
	good := len(b.Edits)+len(b.Rows) <= 256
	for _, e := range b.Edits {
		good = good && e.Kind >= 1 && e.Kind <= 3 && path.May(e.Path)
	}
	for i, r := range b.Rows {
		good = good && path.May(r.Path) && cell.May(r.Cell) && len(r.Cell.L) > 0
		good = good && !slices.ContainsFunc(b.Rows[:i], func(other api.Row) bool { return other.Path == r.Path })
	}
	for _, x := range b.Own {
		good = good && x.From <= x.To
	}
	return good && (!b.Drop || b.Range.From <= b.Range.To) && (b.Map > 0 || len(b.Own) == 0)
}

// textsOf are all of a batch.
func textsOf(b api.Batch) []string {
	var l []string
	for _, e := range b.Edits {
		l = append(l, e.Text)
	}
	for _, r := range b.Rows {
		for _, v := range r.Cell.L {
			l = append(l, v.Text)
		}
	}
	return l
}

// edited is what an edit makes of a cell.
func edited(c api.Cell, e api.Edit) (api.Cell, api.Errno) {
	switch e.Kind {
	case api.EditPut:
		return cell.Put(c, e.Any, e.Want, e.Text)
	case api.EditDelete:
		return cell.Delete(c, e.Any, e.Want)
	}
	return cell.Destroy(c, e.N)
}

// closed is a batch with its texts in envelopes, and the versions that its edits will make.
func (p *plain) closed(b api.Batch, nonce string) (api.Batch, []uint64) {
	i := uint64(0)
	put := func(s string, n uint64, text string) string {
		e, err := p.bar.Put(s, n, nonceOf(nonce, p.log.Next(), i), text)
		if err != api.OK {
			panic("no envelope: " + err.Error())
		}
		i++
		return e
	}
	x := b
	x.Edits, x.Rows, x.Own = nil, nil, slices.Clone(b.Own)
	var versions []uint64
	for at, e := range b.Edits {
		last := p.now.cells[e.Path].Last
		for _, ahead := range b.Edits[:at] {
			if ahead.Path == e.Path && ahead.Kind != api.EditDestroy {
				last++
			}
		}
		switch e.Kind {
		case api.EditPut:
			last++
			e.Text = put(e.Path, last, e.Text)
		case api.EditDelete:
			last++
			e.Text = ""
		default:
			e.Text = ""
		}
		versions = append(versions, last)
		x.Edits = append(x.Edits, e)
	}
	for _, r := range b.Rows {
		r.Cell.L = slices.Clone(r.Cell.L)
		for j, v := range r.Cell.L {
			if v.State == api.VerLive {
				r.Cell.L[j].Text = put(r.Path, v.N, v.Text)
			}
		}
		x.Rows = append(x.Rows, r)
	}
	return x, versions
}

// weigh is the weight of a batch in envelopes.
func weigh(b api.Batch) (paths, bytes int) {
	for _, e := range b.Edits {
		if e.Kind == api.EditPut {
			paths, bytes = paths+1, bytes+len(e.Path)+len(e.Text)
		}
	}
	for _, r := range b.Rows {
		paths, bytes = paths+1, bytes+len(r.Path)
		for _, v := range r.Cell.L {
			bytes += len(v.Text)
		}
	}
	return paths, bytes
}

// tooMuch is whether a batch in envelopes is more than the quota leaves.
func (p *plain) tooMuch(b api.Batch) bool {
	paths, bytes := weigh(b)
	if paths == 0 {
		return false
	}
	for s, c := range p.now.cells {
		paths, bytes = paths+1, bytes+len(s)+cell.Size(c)
	}
	for _, h := range p.now.held {
		n, size := weigh(h.Batch)
		paths, bytes = paths+n, bytes+size
	}
	return paths > p.conf.Quota.Paths || bytes > p.conf.Quota.Bytes
}

func (p *plain) mayPrepare(id api.Txid, b api.Batch, note, nonce string) api.Errno {
	_, isHeld := p.now.held[id]
	long := slices.ContainsFunc(append(textsOf(b), ""), func(s string) bool { return len(s) > 4096-17-32 })
	switch {
	case p.opened() != api.OK:
		return p.opened()
	case isHeld || p.committed(id):
		return api.ErrHave
	case p.refused(id):
		return api.ErrRefused
	case !may(b) || len(nonce) != 12:
		return api.ErrArg
	case long || len(note) > 4096:
		return api.ErrLong
	}
	return api.OK
}

func (p *plain) prepare(id api.Txid, b api.Batch, note, nonce string) ([]uint64, int, api.Errno) {
	if e := p.mayPrepare(id, b, note, nonce); e != api.OK {
		return nil, 0, e
	}
	closed, versions := p.closed(b, nonce)
	trial := maps.Clone(p.now.cells)
	for at, edit := range closed.Edits {
		c, e := edited(trial[edit.Path], edit)
		if e != api.OK {
			return nil, at, e
		}
		trial[edit.Path] = c
	}
	for _, r := range b.Rows {
		if _, is := p.now.cells[r.Path]; is {
			return nil, 0, api.ErrHave
		}
	}
	if p.tooMuch(closed) {
		return nil, 0, api.ErrQuota
	}
	h := api.Held{Id: id, Note: note, Batch: closed}
	next := p.now.copied()
	next.held[id] = h
	record := "\x02" + heldBytes(h)
	if 16+len(record)+96 > p.log.Room() {
		return nil, 0, api.ErrFull
	}
	if p.down {
		return nil, 0, api.ErrState
	}
	if e := p.told(p.log.Reserve(96)); e != api.OK {
		return nil, 0, e
	}
	if e := p.keep(0, record, true, next); e != api.OK {
		p.log.Reserve(-96)
		return nil, 0, e
	}
	return versions, 0, api.OK
}

// applied is a state behind a batch that was done.
func (x state) applied(b api.Batch) state {
	x = x.copied()
	for _, edit := range b.Edits {
		c, e := edited(x.cells[edit.Path], edit)
		if e != api.OK {
			panic("an edit that was tried: " + e.Error())
		}
		x.cells[edit.Path] = c
	}
	if b.Drop {
		maps.DeleteFunc(x.cells, func(p string, _ api.Cell) bool { return isIn(b.Range, p) })
	}
	for _, r := range b.Rows {
		x.cells[r.Path] = r.Cell
	}
	if b.Map > 0 {
		x.epoch, x.own = b.Map, b.Own
	}
	return x
}

func (p *plain) decide(id api.Txid, commit bool) api.Errno {
	h, is := p.now.held[id]
	if !is {
		return api.ErrNone
	}
	next := p.now.copied()
	if commit {
		next = next.applied(h.Batch)
	}
	delete(next.held, id)
	switch {
	case less(id, next.low):
	case commit:
		next.yes[id] = 1
	default:
		next.no[id] = 1
	}
	return p.keep(96, wire.Uints(4, id.Life, id.N)+wire.Bools(commit), true, next)
}

func (p *plain) refuse(id api.Txid) api.Errno {
	_, isHeld := p.now.held[id]
	switch {
	case isHeld || p.committed(id):
		return api.ErrHave
	case p.refused(id):
		return api.OK
	}
	next := p.now.copied()
	next.no[id] = 1
	return p.keep(0, wire.Uints(3, id.Life, id.N), true, next)
}

func (p *plain) lower(id api.Txid) api.Errno {
	if !less(p.now.low, id) {
		return api.OK
	}
	next := p.now.copied()
	next.low = id
	for _, l := range []map[api.Txid]int{next.yes, next.no} {
		maps.DeleteFunc(l, func(other api.Txid, _ int) bool { return less(other, id) })
	}
	return p.keep(0, wire.Uints(5, id.Life, id.N), false, next)
}

func (p *plain) read(s string, n uint64) (api.Version, api.Errno) {
	if e := p.opened(); e != api.OK {
		return api.Version{}, e
	}
	if !path.May(s) {
		return api.Version{}, api.ErrArg
	}
	v, e := cell.Read(p.now.cells[s], n)
	if e != api.OK {
		return api.Version{}, e
	}
	v.Text, e = p.bar.Get(s, v.N, v.Text)
	return v, e
}

func (p *plain) list(prefix string) ([]string, api.Errno) {
	if e := p.opened(); e != api.OK {
		return nil, e
	}
	if !path.Prefix(prefix) {
		return nil, api.ErrArg
	}
	var live []string
	for s, c := range p.now.cells {
		if cell.Now(c) > 0 {
			live = append(live, s)
		}
	}
	return path.Names(prefix, live...), api.OK
}

func (p *plain) export(x api.Range) ([]api.Row, api.Errno) {
	if e := p.opened(); e != api.OK {
		return nil, e
	}
	if x.From > x.To {
		return nil, api.ErrArg
	}
	var l []api.Row
	for _, r := range p.now.rows() {
		if !isIn(x, r.Path) {
			continue
		}
		r.Cell.L = slices.Clone(r.Cell.L)
		for i, v := range r.Cell.L {
			if v.State == api.VerLive {
				r.Cell.L[i].Text, _ = p.bar.Get(r.Path, v.N, v.Text)
			}
		}
		l = append(l, r)
	}
	return l, api.OK
}

// checkpoint is told how many calls of the disk it has (below 0: as many as it wants).
func (p *plain) checkpoint(calls int) api.Errno {
	if p.down {
		return api.ErrState
	}
	e := p.log.Checkpoint(p.now.bytes())
	switch {
	case e == api.OK || calls >= 2 && e == api.ErrDown:
		// The second call was the sync of the new head; what is cut behind it changes nothing.
		p.base, p.loose = p.now, slices.Repeat([]state{p.now}, p.disk.Loose())
	case calls == 1 && e == api.ErrDown:
		p.loose = append(p.loose, p.now)
	}
	return e
}

// crash leaves so many calls of what is loose, and a beginning of the next one that is not all of it; then it is opened again.
func (p *plain) crash(calls, bytes int) {
	if calls >= 0 && len(p.loose) > 0 {
		if calls = min(calls, len(p.loose)); calls > 0 {
			p.base = p.loose[calls-1]
		}
	}
	p.disk.Crash(calls, bytes)
	p.now, p.loose, p.down = p.base, nil, false
	w, _, e := wal.Open(p.disk, p.conf.Wal)
	if e != api.OK {
		panic("no log: " + e.Error())
	}
	if e := w.Reserve(96 * len(p.now.held)); e != api.OK {
		panic("no room for decisions: " + e.Error())
	}
	p.log, p.bar = w, barrier.New()
	if p.now.header != "" {
		p.bar.Load(p.now.header)
	}
	p.loose = slices.Repeat([]state{p.now}, p.disk.Loose())
}

// prepared is all that is, as a store tells it.
func (p *plain) prepared() []api.Held {
	var l []api.Held
	for _, id := range inOrder(p.now.held) {
		l = append(l, p.now.held[id])
	}
	return l
}

// paths and txids are those that rows of calls touch.
var (
	paths = []string{"a", "a/b", "a/b/c", "a/d", "e.f", "g_h/-i"}
	txids = someTxids()
	all   = api.Range{To: 1<<64 - 1}
)

// someTxids rise.
func someTxids() []api.Txid {
	l := []api.Txid{{}, {N: 7}, {N: 1<<64 - 1}}
	for life := range uint64(4) {
		for n := range uint64(8) {
			l = append(l, api.Txid{Life: life + 1, N: n * n * n * n * n * n})
		}
	}
	return append(l, api.Txid{Life: 300, N: 1}, api.Txid{Life: 1<<64 - 1, N: 1<<64 - 1})
}

// tell is all that is seen of it.
func (p *plain) tell() string {
	var b strings.Builder
	fmt.Fprintln(&b, p.bar.State(), p.now.epoch, slices.Concat(p.now.own), p.prepared(), p.log.Down())
	for _, id := range txids {
		fmt.Fprintln(&b, id, p.committed(id), p.refused(id))
	}
	for _, s := range append(paths, "", "A") {
		fmt.Fprintln(&b, s, p.has(s), cell.Now(p.now.cells[s]), p.now.cells[s].Last)
		for n := range uint64(4) {
			fmt.Fprintln(&b, fmt.Sprint(p.read(s, n)))
		}
		l, e := p.list(s)
		fmt.Fprintf(&b, "%q %v\n", l, e)
	}
	for _, x := range []api.Range{all, {From: 1 << 63, To: 1<<64 - 1}, {From: 1}} {
		l, e := p.export(x)
		fmt.Fprintln(&b, slices.Concat(l), e)
	}
	return b.String()
}
