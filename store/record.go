package store

import (
	"maps"
	"slices"

	"scrinium/api"
	"scrinium/barrier"
	"scrinium/seal"
	"scrinium/wire"
)

// The kinds of records, by the number that each begins with.
const (
	headerKind uint64 = 1
	heldKind   uint64 = 2
	refuseKind uint64 = 3
	decideKind uint64 = 4
	lowKind    uint64 = 5
	ownKind    uint64 = 6
)

// headerRecord answers a header's record.
func headerRecord(header string) string { return wire.Uints(headerKind) + wire.Texts(header) }

// heldRecord answers the record of what is prepared.
func heldRecord(h api.Held) string {
	var w writer
	w.uints(heldKind)
	w.held(h)
	return w.String()
}

// decideRecord answers the record of what is decided.
func decideRecord(id api.Txid, commit bool) string {
	return idRecord(decideKind, id) + wire.Bools(commit)
}

// idRecord answers a record of a kind of which no more is told than a transaction.
func idRecord(kind uint64, id api.Txid) string { return wire.Uints(kind, id.Life, id.N) }

// ownRecord answers the record of a store's ranges.
func ownRecord(epoch uint64, l []api.Range) string {
	var w writer
	w.uints(ownKind, epoch)
	w.ranges(l)
	return w.String()
}

// checkpoint answers all that is there.
func (s *Store) checkpoint() string {
	var w writer
	w.texts(s.barrier.Header())
	w.id(s.low)
	w.uints(s.epoch)
	w.ranges(s.own)
	w.rows(s.table.Rows())
	list(&w, s.Prepared(), w.held)
	for _, l := range []ids{s.committed, s.refused} {
		list(&w, slices.SortedFunc(maps.Keys(l), compare), w.id)
	}
	return w.String()
}

// again does all that a log has again, one by one; ErrForm, if it is none of a store's.
func (s *Store) again(k api.Kept) api.Errno {
	fault := api.OK
	take := func(text string, do func(r *reader)) {
		if fault != api.OK {
			return
		}
		r := &reader{Reader: wire.New(text)}
		do(r)
		if r.End() != api.OK || r.wrong {
			fault = api.ErrForm
		}
	}
	if k.Text != "" {
		take(k.Text, func(r *reader) {
			s.readCheckpoint(r)
			// Else something stands there twice, or not in order.
			r.must(s.checkpoint() == k.Text)
		})
	}
	records := s.records()
	for _, text := range k.Records {
		take(text, func(r *reader) {
			if do, is := records[r.number()]; r.must(is) {
				do(r)
			}
		})
	}
	return fault
}

// records answers how each kind of record is done again.
func (s *Store) records() map[uint64]func(r *reader) {
	return map[uint64]func(r *reader){
		headerKind: s.readHeader,
		heldKind:   s.readHeld,
		refuseKind: s.readRefused,
		decideKind: s.readDecided,
		lowKind:    s.readLow,
		ownKind:    s.readOwn,
	}
}

// Each of these does again what one record has, if a store may have written it behind those ahead.

func (s *Store) readHeader(r *reader) { s.load(r, r.text()) }

func (s *Store) readHeld(r *reader) {
	if h := r.held(); r.must(!s.Refused(h.Id)) {
		s.holdAgain(r, h)
	}
}

func (s *Store) readRefused(r *reader) {
	if id := r.id(); r.must(!s.isPrepared(id) && !s.Committed(id) && !s.Refused(id)) {
		s.remember(s.refused, id)
	}
}

func (s *Store) readDecided(r *reader) {
	if id, commit := r.id(), r.Bool(); r.must(s.isPrepared(id)) {
		s.decide(id, commit)
	}
}

func (s *Store) readLow(r *reader) {
	if id := r.id(); r.must(compare(id, s.low) > 0) {
		s.setLow(id)
	}
}

func (s *Store) readOwn(r *reader) {
	if epoch, l := r.number(), r.ranges(); r.must(epoch > s.epoch && mayRanges(l)) {
		s.setOwn(epoch, l)
	}
}

// readCheckpoint lets an empty store be what a checkpoint has.
func (s *Store) readCheckpoint(r *reader) {
	if header := r.text(); header != "" {
		s.load(r, header)
	}
	s.low = r.id()
	if epoch, l := r.number(), r.ranges(); r.must(mayOwn(epoch, l)) {
		s.setOwn(epoch, l)
	}
	rows := r.rows()
	r.must(len(rows) == 0 || s.State() != api.BarNone)
	r.must(areClosed(api.Batch{Rows: rows}) && s.table.Load(rows...) == api.OK)
	for _, h := range read(r, r.held) {
		s.holdAgain(r, h)
	}
	for _, l := range []ids{s.committed, s.refused} {
		for _, id := range read(r, r.id) {
			r.must(!s.isPrepared(id) && !s.Committed(id))
			s.remember(l, id)
		}
	}
}

// load lets the barrier be the sealed one of a header.
func (s *Store) load(r *reader, header string) {
	b := barrier.New()
	if r.must(b.Load(header) == api.OK) {
		s.barrier = b
	}
}

// holdAgain lets be prepared what a store may have prepared.
func (s *Store) holdAgain(r *reader, h api.Held) {
	r.must(s.State() != api.BarNone && !s.isPrepared(h.Id) && !s.Committed(h.Id))
	if r.must(mayBe(h.Batch) && areClosed(h.Batch)) {
		s.hold(h)
	}
}

// areClosed answers whether each text of a batch that has one is an envelope.
func areClosed(b api.Batch) bool {
	for _, e := range b.Edits {
		if !isClosed(e.Kind == api.EditPut, e.Text) {
			return false
		}
	}
	for _, r := range b.Rows {
		if slices.ContainsFunc(r.Cell.L, func(v api.Version) bool { return !isClosed(v.State == api.VerLive, v.Text) }) {
			return false
		}
	}
	return true
}

// isClosed answers whether a text is an envelope, as far as one sees without a key; or, where none has to be, nothing.
func isClosed(has bool, text string) bool {
	if !has {
		return text == ""
	}
	_, err := seal.Epoch(text)
	return err == api.OK && len(text) <= seal.Size(api.MaxPlain)
}
