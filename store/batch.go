package store

import (
	"slices"
	"strings"

	"scrinium/api"
	"scrinium/cell"
	"scrinium/path"
	"scrinium/word"
)

const (
	drawAhead   = api.NonceSize - 8 // bytes of a draw ahead of its number
	noncePlaces = 64                // of each record's nonces
	headerPlace = 63                // that of a header's
)

// weight is how many paths, and how many bytes of these and of envelopes.
type weight struct{ paths, bytes int }

// plus answers both together.
func (w weight) plus(other weight) weight {
	return weight{w.paths + other.paths, w.bytes + other.bytes}
}

// less answers w without the other one.
func (w weight) less(other weight) weight {
	return weight{w.paths - other.paths, w.bytes - other.bytes}
}

// weightOf answers what a batch, in envelopes, brings.
func weightOf(b api.Batch) weight {
	var w weight
	for _, e := range b.Edits {
		if e.Kind == api.EditPut {
			w = w.plus(weight{1, len(e.Path) + len(e.Text)})
		}
	}
	for _, r := range b.Rows {
		w = w.plus(weight{1, len(r.Path) + cell.Size(r.Cell)})
	}
	return w
}

// mayBe answers whether a batch may be, however long its texts are.
func mayBe(b api.Batch) bool {
	return len(b.Edits)+len(b.Rows) <= api.MaxBatch && mayEdits(b.Edits) && mayRows(b.Rows) &&
		(!b.Drop || mayRange(b.Range)) && mayOwn(b.Map, b.Own)
}

// mayEdits answers whether each edit is of a kind, of a path.
func mayEdits(l []api.Edit) bool {
	return !slices.ContainsFunc(l, func(e api.Edit) bool { return !isKind(e.Kind) || !path.May(e.Path) })
}

// isKind answers whether edits may be of a kind.
func isKind(kind uint8) bool {
	return kind == api.EditPut || kind == api.EditDelete || kind == api.EditDestroy
}

// mayRows answers whether each row has a path, which no other one has, and a cell that may be, with a version.
func mayRows(l []api.Row) bool {
	paths := map[string]struct{}{}
	for _, r := range l {
		if !path.May(r.Path) || !cell.May(r.Cell) || len(r.Cell.L) == 0 {
			return false
		}
		paths[r.Path] = struct{}{}
	}
	return len(paths) == len(l)
}

// mayOwn answers whether a map's epoch, and the ranges by it, may be: of epoch 0, by which nobody has any, there are none.
func mayOwn(epoch uint64, l []api.Range) bool {
	if epoch == 0 {
		return len(l) == 0
	}
	return mayRanges(l)
}

// mayRanges answers whether each range may be.
func mayRanges(l []api.Range) bool {
	return !slices.ContainsFunc(l, func(x api.Range) bool { return !mayRange(x) })
}

// mayRange answers whether a range may be.
func mayRange(x api.Range) bool { return x.From <= x.To }

// within answers whether a place is in a range.
func within(x api.Range, place uint64) bool { return x.From <= place && place <= x.To }

// hasLong answers whether a text of a batch is too long.
func hasLong(b api.Batch) bool {
	isLong := func(text string) bool { return len(text) > api.MaxPlain }
	return slices.ContainsFunc(b.Edits, func(e api.Edit) bool { return isLong(e.Text) }) ||
		slices.ContainsFunc(b.Rows, func(r api.Row) bool {
			return slices.ContainsFunc(r.Cell.L, func(v api.Version) bool { return isLong(v.Text) })
		})
}

// versions answers what each edit's cell has as Last behind it.
func (s *Store) versions(l []api.Edit) []uint64 {
	var versions []uint64
	last := map[string]uint64{}
	for _, e := range l {
		n, touched := last[e.Path]
		if !touched {
			n = s.table.Last(e.Path)
		}
		if e.Kind != api.EditDestroy {
			n++
		}
		last[e.Path] = n
		versions = append(versions, n)
	}
	return versions
}

// closed answers the same, which shares nothing with h, with its texts in envelopes: those of edits for the versions that these make.
func (s *Store) closed(h api.Held, versions []uint64, draw string) api.Held {
	place := uint64(0)
	envelope := func(p string, n uint64, text string) string {
		// It has no error where s is open, and a batch and a draw may be.
		closed, _ := s.barrier.Put(p, n, s.nonce(draw, place), text)
		place++
		return closed
	}
	h.Note = strings.Clone(h.Note)
	h.Batch = cloned(h.Batch)
	for i, e := range h.Batch.Edits {
		text := ""
		if e.Kind == api.EditPut {
			text = envelope(e.Path, versions[i], e.Text)
		}
		h.Batch.Edits[i].Path, h.Batch.Edits[i].Text = strings.Clone(e.Path), text
	}
	for i, r := range h.Batch.Rows {
		h.Batch.Rows[i].Path = strings.Clone(r.Path)
		for j, v := range r.Cell.L {
			if v.State == api.VerLive {
				r.Cell.L[j].Text = envelope(r.Path, v.N, v.Text)
			}
		}
	}
	return h
}

// nonce answers the nonce by which a draw's envelope of a place in the next record is closed; a draw that is none as it is.
func (s *Store) nonce(draw string, place uint64) string {
	if len(draw) != api.NonceSize {
		return draw
	}
	number, _ := word.Get64(draw, drawAhead)
	return draw[:drawAhead] + word.Put64(number^(noncePlaces*s.log.Next()+place))
}

// cloned answers the same batch, which shares no list with b.
func cloned(b api.Batch) api.Batch {
	b.Edits, b.Rows, b.Own = slices.Clone(b.Edits), slices.Clone(b.Rows), slices.Clone(b.Own)
	for i := range b.Rows {
		b.Rows[i].Cell.L = slices.Clone(b.Rows[i].Cell.L)
	}
	return b
}
