package msg

import (
	"math"
	"strings"

	"scrinium/api"
	"scrinium/wire"
)

// longest is how many bytes a path, a name or a prefix has at most: a name is a part of a path, and a slash.
const longest = api.MaxPath + 1

// scribe writes a message, or reads one: each of its methods does that with one part, in the same words for both.
type scribe struct {
	m       api.Msg
	written strings.Builder
	reader  *wire.Reader // nil: it writes
	wrong   bool         // something is out of bounds
}

// whole is what is a number as bytes.
type whole interface {
	~uint8 | ~uint32 | ~uint64 | ~int
}

// all does the message.
func (s *scribe) all() {
	number(s, &s.m.Kind, 0, math.MaxUint8)
	row, is := s.kinds()[s.m.Kind]
	s.must(is)
	for _, part := range row {
		part()
	}
}

// kinds answers what each kind of message has, in order.
func (s *scribe) kinds() map[uint8][]func() {
	return map[uint8][]func(){
		api.MsgPrepare: {s.tx, s.low, s.epoch, s.parts, s.ask, s.rows, s.next, s.own},
		api.MsgVote:    {s.tx, s.rows, s.commit, s.err, s.told},
		api.MsgDecide:  {s.tx, s.low, s.commit},
		api.MsgAck:     {s.tx},
		api.MsgQuery:   {s.tx},
		api.MsgTold:    {s.tx, s.low, s.state},
	}
}

// Each of these does one part of the message.

func (s *scribe) tx() { s.txid(&s.m.Tx, 1) }

func (s *scribe) low() { s.txid(&s.m.Low, 0) }

func (s *scribe) epoch() { s.large(&s.m.Map) }

func (s *scribe) parts() { list(s, &s.m.Parts, s.shard) }

func (s *scribe) ask() {
	a := &s.m.Ask
	s.shard(&a.Shard)
	list(s, &a.Reads, s.read)
	list(s, &a.ReadAt, s.at)
	list(s, &a.Edits, s.edit)
	list(s, &a.EditAt, s.at)
	s.truth(&a.List)
	s.name(&a.Prefix)
	s.truth(&a.Give)
	s.truth(&a.Take)
	s.span(&a.Range)
}

func (s *scribe) rows() { list(s, &s.m.Rows, s.row) }

func (s *scribe) next() { s.large(&s.m.Next) }

func (s *scribe) own() { list(s, &s.m.Own, s.span) }

func (s *scribe) commit() { s.truth(&s.m.Commit) }

func (s *scribe) err() { s.errno(&s.m.Err) }

func (s *scribe) told() {
	t := &s.m.Told
	s.shard(&t.Shard)
	list(s, &t.Got, s.got)
	list(s, &t.Numbers, s.large)
	list(s, &t.Names, s.name)
}

func (s *scribe) state() { number(s, &s.m.State, uint64(api.TxOpen), uint64(api.TxAborted)) }

// Each of these does one thing of its kind, wherever that stands.

func (s *scribe) txid(id *api.Txid, least uint64) {
	number(s, &id.Life, least, api.MaxLife)
	number(s, &id.N, least, api.MaxLife)
}

func (s *scribe) read(r *api.Read) {
	s.name(&r.Path)
	s.large(&r.N)
}

func (s *scribe) edit(e *api.Edit) {
	s.small(&e.Kind)
	s.name(&e.Path)
	s.truth(&e.Any)
	s.large(&e.Want)
	s.large(&e.N)
	s.value(&e.Text)
}

func (s *scribe) row(r *api.Row) {
	s.name(&r.Path)
	s.large(&r.Cell.Last)
	list(s, &r.Cell.L, s.version)
}

func (s *scribe) version(v *api.Version) {
	s.large(&v.N)
	s.small(&v.State)
	s.value(&v.Text)
}

func (s *scribe) got(g *api.Got) {
	s.version(&g.Version)
	s.errno(&g.Err)
}

func (s *scribe) span(r *api.Range) {
	s.large(&r.From)
	s.large(&r.To)
}

func (s *scribe) large(n *uint64) { number(s, n, 0, math.MaxUint64) }

func (s *scribe) small(n *uint8) { number(s, n, 0, math.MaxUint8) }

func (s *scribe) shard(n *uint32) { number(s, n, 0, math.MaxUint32) }

func (s *scribe) at(n *int) { number(s, n, 0, api.MaxList) }

func (s *scribe) errno(n *api.Errno) { number(s, n, 0, api.MaxErrno) }

func (s *scribe) name(text *string) { s.text(text, longest) }

func (s *scribe) value(text *string) { s.text(text, api.MaxValue) }

// number does a number, from one to another one. (One below 0 is above all that may be, as a number without a sign.)
func number[T whole](s *scribe, n *T, least, most uint64) {
	if s.reader != nil {
		*n = T(s.reader.Uint(most))
	} else {
		s.put(wire.Uints(uint64(*n)))
	}
	s.must(uint64(*n) >= least && uint64(*n) <= most)
}

// text does a text, of at most so many bytes.
func (s *scribe) text(text *string, most int) {
	if s.reader != nil {
		*text = s.reader.Text(most)
	} else if s.must(len(*text) <= most) {
		s.put(wire.Texts(*text))
	}
}

// truth does a truth.
func (s *scribe) truth(is *bool) {
	if s.reader != nil {
		*is = s.reader.Bool()
	} else {
		s.put(wire.Bools(*is))
	}
}

// list does a list: how many there are, and each.
func list[T any](s *scribe, l *[]T, one func(x *T)) {
	if s.reader == nil {
		s.must(len(*l) <= api.MaxList)
		s.put(wire.Uints(uint64(len(*l))))
	} else if n := s.reader.Count(api.MaxList); n > 0 {
		*l = make([]T, n)
	}
	for i := range *l {
		// Whatever is wrong stays so: behind it there may be more than a message has room for.
		if s.wrong {
			return
		}
		one(&(*l)[i])
	}
}

// put writes what there is room for in a message.
func (s *scribe) put(text string) {
	if s.must(s.written.Len()+len(text) <= api.MaxMsg) {
		s.written.WriteString(text)
	}
}

// must lets the message be wrong, unless something is so; it answers whether it is right so far.
func (s *scribe) must(is bool) bool {
	s.wrong = s.wrong || !is
	return !s.wrong
}
