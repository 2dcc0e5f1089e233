package store

import (
	"math"
	"strings"

	"scrinium/api"
	"scrinium/wire"
)

// writer is what is written, piece by piece.
type writer struct{ strings.Builder }

// reader is what is read back, and whether it is wrong, though its bytes are not.
type reader struct {
	*wire.Reader
	wrong bool
}

func (w *writer) uints(l ...uint64) { w.WriteString(wire.Uints(l...)) }

func (w *writer) texts(l ...string) { w.WriteString(wire.Texts(l...)) }

func (w *writer) bools(l ...bool) { w.WriteString(wire.Bools(l...)) }

func (w *writer) id(id api.Txid) { w.uints(id.Life, id.N) }

func (w *writer) ranges(l []api.Range) { list(w, l, w.span) }

func (w *writer) span(x api.Range) { w.uints(x.From, x.To) }

func (w *writer) edit(e api.Edit) {
	w.uints(uint64(e.Kind))
	w.texts(e.Path)
	w.bools(e.Any)
	w.uints(e.Want, e.N)
	w.texts(e.Text)
}

func (w *writer) rows(l []api.Row) { list(w, l, w.row) }

func (w *writer) row(r api.Row) {
	w.texts(r.Path)
	w.uints(r.Cell.Last)
	list(w, r.Cell.L, w.version)
}

func (w *writer) version(v api.Version) {
	w.uints(v.N, uint64(v.State))
	w.texts(v.Text)
}

func (w *writer) held(h api.Held) {
	w.id(h.Id)
	w.texts(h.Note)
	b := h.Batch
	list(w, b.Edits, w.edit)
	w.rows(b.Rows)
	w.bools(b.Drop)
	w.span(b.Range)
	w.uints(b.Map)
	w.ranges(b.Own)
}

// list writes how many there are, and each.
func list[T any](w *writer, l []T, write func(one T)) {
	w.uints(uint64(len(l)))
	for _, one := range l {
		write(one)
	}
}

// must lets what was read be wrong, unless something is so; it answers whether it is right so far.
func (r *reader) must(is bool) bool {
	r.wrong = r.wrong || !is || r.Err() != api.OK
	return !r.wrong
}

func (r *reader) number() uint64 { return r.Uint(math.MaxUint64) }

func (r *reader) small() uint8 { return uint8(r.Uint(math.MaxUint8)) }

func (r *reader) text() string { return r.Text(math.MaxInt) }

func (r *reader) id() api.Txid { return api.Txid{Life: r.number(), N: r.number()} }

func (r *reader) ranges() []api.Range { return read(r, r.span) }

func (r *reader) span() api.Range { return api.Range{From: r.number(), To: r.number()} }

func (r *reader) edit() api.Edit {
	return api.Edit{Kind: r.small(), Path: r.text(), Any: r.Bool(), Want: r.number(), N: r.number(), Text: r.text()}
}

func (r *reader) rows() []api.Row { return read(r, r.row) }

func (r *reader) row() api.Row {
	return api.Row{Path: r.text(), Cell: api.Cell{Last: r.number(), L: read(r, r.version)}}
}

func (r *reader) version() api.Version {
	return api.Version{N: r.number(), State: r.small(), Text: r.text()}
}

func (r *reader) held() api.Held {
	return api.Held{Id: r.id(), Note: r.Text(api.MaxNote), Batch: r.batch()}
}

func (r *reader) batch() api.Batch {
	return api.Batch{
		Edits: read(r, r.edit), Rows: r.rows(), Drop: r.Bool(), Range: r.span(), Map: r.number(), Own: r.ranges(),
	}
}

// read reads how many there are, and each, up to the first fault.
func read[T any](r *reader, one func() T) []T {
	var l []T
	for range r.Count(math.MaxInt) {
		l = append(l, one())
		if r.Err() != api.OK {
			return nil
		}
	}
	return l
}
