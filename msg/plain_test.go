package msg_test

import (
	"errors"
	"math"
	"reflect"

	"scrinium/api"
)

// This file says by the chapter's words alone what bytes a message has, and which may be; no function of the program tells it.

// kept is a message with what its kind has, and nothing else.
func kept(m api.Msg) api.Msg {
	k := api.Msg{Kind: m.Kind, Tx: m.Tx}
	switch m.Kind {
	case 1:
		k.Low, k.Map, k.Parts, k.Ask, k.Rows, k.Next, k.Own = m.Low, m.Map, m.Parts, m.Ask, m.Rows, m.Next, m.Own
	case 2:
		k.Rows, k.Commit, k.Err, k.Told = m.Rows, m.Commit, m.Err, m.Told
	case 3:
		k.Low, k.Commit = m.Low, m.Commit
	case 6:
		k.Low, k.State = m.Low, m.State
	}
	return k
}

// norm is a message whose empty lists are nil, in memory of its own.
func norm(m api.Msg) api.Msg {
	m.Parts, m.Own = list(m.Parts), list(m.Own)
	m.Ask.Reads, m.Ask.ReadAt = list(m.Ask.Reads), list(m.Ask.ReadAt)
	m.Ask.Edits, m.Ask.EditAt = list(m.Ask.Edits), list(m.Ask.EditAt)
	m.Told.Got, m.Told.Numbers, m.Told.Names = list(m.Told.Got), list(m.Told.Numbers), list(m.Told.Names)
	m.Rows = list(m.Rows)
	for i := range m.Rows {
		m.Rows[i].Cell.L = list(m.Rows[i].Cell.L)
	}
	return m
}

// list is the same list in other memory; nil, if it has nothing.
func list[T any](l []T) []T { return append([]T(nil), l...) }

// equal is whether two messages are the same.
func equal(a, b api.Msg) bool { return reflect.DeepEqual(norm(a), norm(b)) }

// mayBe is whether a message may be.
func mayBe(m api.Msg) bool {
	return m.Kind >= 1 && m.Kind <= 6 && equal(m, kept(m)) && inBounds(m) && len(bytesOf(m)) <= 65536
}

// inBounds is whether what a message of a kind has is in bounds.
func inBounds(m api.Msg) bool {
	const life = 1 << 62
	m = kept(m)
	if m.Tx.Life < 1 || m.Tx.Life > life || m.Tx.N < 1 || m.Tx.N > life || m.Low.Life > life || m.Low.N > life {
		return false
	}
	if m.Kind == 6 && (m.State < 1 || m.State > 3) {
		return false
	}
	most := 0
	for _, n := range []int{len(m.Parts), len(m.Ask.Reads), len(m.Ask.ReadAt), len(m.Ask.Edits), len(m.Ask.EditAt), len(m.Rows), len(m.Own), len(m.Told.Got), len(m.Told.Numbers), len(m.Told.Names)} {
		most = max(most, n)
	}
	for _, r := range m.Rows {
		most = max(most, len(r.Cell.L))
	}
	return most <= 512 && textsInBounds(m) && numbersInBounds(m)
}

func textsInBounds(m api.Msg) bool {
	name, text := len(m.Ask.Prefix), 0
	for _, r := range m.Ask.Reads {
		name = max(name, len(r.Path))
	}
	for _, e := range m.Ask.Edits {
		name, text = max(name, len(e.Path)), max(text, len(e.Text))
	}
	for _, r := range m.Rows {
		name = max(name, len(r.Path))
		for _, v := range r.Cell.L {
			text = max(text, len(v.Text))
		}
	}
	for _, s := range m.Told.Names {
		name = max(name, len(s))
	}
	for _, g := range m.Told.Got {
		text = max(text, len(g.Version.Text))
	}
	return name <= 129 && text <= 4096
}

func numbersInBounds(m api.Msg) bool {
	for _, n := range append(list(m.Ask.ReadAt), m.Ask.EditAt...) {
		if n < 0 || n > 512 {
			return false
		}
	}
	for _, g := range append(list(m.Told.Got), api.Got{Err: m.Err}) {
		if g.Err < 0 || g.Err > 9999 {
			return false
		}
	}
	return true
}

// bytesOf are the bytes of what a message has by its kind, whether it may be or not.
func bytesOf(m api.Msg) string {
	var p press
	p.number(uint64(m.Kind))
	p.number(m.Tx.Life, m.Tx.N)
	switch m.Kind {
	case 1:
		p.number(m.Low.Life, m.Low.N, m.Map, uint64(len(m.Parts)))
		for _, n := range m.Parts {
			p.number(uint64(n))
		}
		p.ask(m.Ask)
		p.rows(m.Rows)
		p.number(m.Next, uint64(len(m.Own)))
		for _, r := range m.Own {
			p.number(r.From, r.To)
		}
	case 2:
		p.rows(m.Rows)
		p.truth(m.Commit)
		p.number(uint64(m.Err))
		p.told(m.Told)
	case 3:
		p.number(m.Low.Life, m.Low.N)
		p.truth(m.Commit)
	case 6:
		p.number(m.Low.Life, m.Low.N, uint64(m.State))
	}
	return string(p.b)
}

// press lays bytes one behind the other.
type press struct{ b []byte }

func (p *press) number(l ...uint64) {
	for _, n := range l {
		for n > 127 {
			p.b = append(p.b, byte(n%128)+128)
			n /= 128
		}
		p.b = append(p.b, byte(n))
	}
}

func (p *press) text(s string) {
	p.number(uint64(len(s)))
	p.b = append(p.b, s...)
}

func (p *press) truth(is bool) {
	if is {
		p.b = append(p.b, 1)
	} else {
		p.b = append(p.b, 0)
	}
}

func (p *press) ask(a api.Ask) {
	p.number(uint64(a.Shard), uint64(len(a.Reads)))
	for _, r := range a.Reads {
		p.text(r.Path)
		p.number(r.N)
	}
	p.places(a.ReadAt)
	p.number(uint64(len(a.Edits)))
	for _, e := range a.Edits {
		p.number(uint64(e.Kind))
		p.text(e.Path)
		p.truth(e.Any)
		p.number(e.Want, e.N)
		p.text(e.Text)
	}
	p.places(a.EditAt)
	p.truth(a.List)
	p.text(a.Prefix)
	p.truth(a.Give)
	p.truth(a.Take)
	p.number(a.Range.From, a.Range.To)
}

func (p *press) places(l []int) {
	p.number(uint64(len(l)))
	for _, n := range l {
		p.number(uint64(n))
	}
}

func (p *press) rows(l []api.Row) {
	p.number(uint64(len(l)))
	for _, r := range l {
		p.text(r.Path)
		p.number(r.Cell.Last, uint64(len(r.Cell.L)))
		for _, v := range r.Cell.L {
			p.version(v)
		}
	}
}

func (p *press) version(v api.Version) {
	p.number(v.N, uint64(v.State))
	p.text(v.Text)
}

func (p *press) told(t api.Told) {
	p.number(uint64(t.Shard), uint64(len(t.Got)))
	for _, g := range t.Got {
		p.version(g.Version)
		p.number(uint64(g.Err))
	}
	p.number(uint64(len(t.Numbers)))
	p.number(t.Numbers...)
	p.number(uint64(len(t.Names)))
	for _, s := range t.Names {
		p.text(s)
	}
}

// read is the message that has these bytes, and whether there is one.
func read(s string) (m api.Msg, is bool) {
	defer func() {
		if recover() != nil {
			m, is = api.Msg{}, false
		}
	}()
	c := &cutter{s}
	m.Kind = uint8(c.number(255))
	m.Tx = c.txid()
	switch m.Kind {
	case 1:
		m.Low, m.Map, m.Parts = c.txid(), c.number(math.MaxUint64), many(c, c.shard)
		m.Ask = c.ask()
		m.Rows = many(c, c.row)
		m.Next, m.Own = c.number(math.MaxUint64), many(c, c.span)
	case 2:
		m.Rows, m.Commit, m.Err, m.Told = many(c, c.row), c.truth(), api.Errno(c.number(9999)), c.told()
	case 3:
		m.Low, m.Commit = c.txid(), c.truth()
	case 6:
		m.Low, m.State = c.txid(), uint8(c.number(3))
	}
	return m, c.s == "" && len(s) <= 65536 && mayBe(m)
}

var errWrong = errors.New("wrong bytes")

// cutter takes things off the front of bytes, and panics where that can't be.
type cutter struct{ s string }

func (c *cutter) number(most uint64) uint64 {
	n, scale := uint64(0), uint64(1)
	for i := 0; ; i++ {
		b := uint64(c.s[0])
		c.s = c.s[1:]
		if i == 9 && b > 1 || i > 0 && b == 0 {
			panic(errWrong)
		}
		n += b % 128 * scale
		scale *= 128
		if b < 128 {
			break
		}
	}
	if n > most {
		panic(errWrong)
	}
	return n
}

func (c *cutter) large() uint64     { return c.number(math.MaxUint64) }
func (c *cutter) shard() uint32     { return uint32(c.number(math.MaxUint32)) }
func (c *cutter) place() int        { return int(c.number(512)) }
func (c *cutter) truth() bool       { return c.number(1) == 1 }
func (c *cutter) txid() api.Txid    { return api.Txid{Life: c.large(), N: c.large()} }
func (c *cutter) span() api.Range   { return api.Range{From: c.large(), To: c.large()} }
func (c *cutter) name() string      { return c.text(129) }
func (c *cutter) got() api.Got      { return api.Got{Version: c.version(), Err: api.Errno(c.number(9999))} }
func (c *cutter) oneRead() api.Read { return api.Read{Path: c.name(), N: c.large()} }

func (c *cutter) text(most uint64) string {
	n := c.number(most)
	s := c.s[:n]
	c.s = c.s[n:]
	return s
}

func (c *cutter) version() api.Version {
	return api.Version{N: c.large(), State: uint8(c.number(255)), Text: c.text(4096)}
}

func (c *cutter) row() api.Row {
	return api.Row{Path: c.name(), Cell: api.Cell{Last: c.large(), L: many(c, c.version)}}
}

func (c *cutter) edit() api.Edit {
	return api.Edit{Kind: uint8(c.number(255)), Path: c.name(), Any: c.truth(), Want: c.large(), N: c.large(), Text: c.text(4096)}
}

func (c *cutter) ask() api.Ask {
	return api.Ask{
		Shard: c.shard(), Reads: many(c, c.oneRead), ReadAt: many(c, c.place), Edits: many(c, c.edit), EditAt: many(c, c.place),
		List: c.truth(), Prefix: c.name(), Give: c.truth(), Take: c.truth(), Range: c.span(),
	}
}

func (c *cutter) told() api.Told {
	return api.Told{Shard: c.shard(), Got: many(c, c.got), Numbers: many(c, c.large), Names: many(c, c.name)}
}

func many[T any](c *cutter, one func() T) []T {
	var l []T
	for range c.number(512) {
		l = append(l, one())
	}
	return l
}
