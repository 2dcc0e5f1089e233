package barrier

import (
	"slices"
	"testing"

	"scrinium/api"
)

// plain is a barrier by the chapter's words, made by no function of this package. What its header was closed by, and of what, it knows also while it is sealed.
type plain struct {
	state  uint8
	header string
	came   map[byte]string
	root   string
	rows   []row
}

// tells is what it tells of itself.
func (p *plain) tells() told {
	switch p.state {
	case api.BarNone:
		return told{}
	case api.BarSealed:
		return sealedAs(p.header, len(p.came))
	}
	return openAs(p.header, p.rows...)
}

func (p *plain) begin(root, key, nonce string, l []string) ([]string, api.Errno) {
	if p.state != api.BarNone {
		return nil, api.ErrState
	}
	*p = plain{api.BarOpen, headerBy(len(l)+1, root, nonce, row{1, key}), nil, root, []row{{1, key}}}
	return sharesBy(root, l), api.OK
}

// load takes what another one knows of its header.
func (p *plain) load(of plain) api.Errno {
	switch {
	case p.state != api.BarNone:
		return api.ErrState
	case of.header == "":
		return api.ErrForm
	}
	*p = plain{api.BarSealed, of.header, nil, of.root, of.rows}
	return api.OK
}

func (p *plain) unseal(s string) (bool, api.Errno) {
	switch {
	case p.state != api.BarSealed:
		return false, api.ErrState
	case len(s) < 3 || len(s) > 66 || s[1] < 1 || s[1] > 16 || s[0] < 1 || s[0] > s[1]:
		return false, api.ErrForm
	case s[1] != p.header[0] || len(s) != 34:
		return false, api.ErrOther
	case p.came[s[0]] != "":
		return false, api.ErrHave
	}
	if p.came == nil {
		p.came = map[byte]string{}
	}
	p.came[s[0]] = s
	if len(p.came) < int(s[1]) {
		return false, api.OK
	}
	secret := make([]byte, 32)
	for _, s := range p.came {
		for i := range secret {
			secret[i] ^= s[2+i]
		}
	}
	p.came = nil
	if string(secret) != p.root {
		return false, api.ErrTag
	}
	p.state = api.BarOpen
	return true, api.OK
}

func (p *plain) seal() api.Errno {
	if p.state != api.BarOpen {
		return api.ErrState
	}
	p.state = api.BarSealed
	return api.OK
}

// used is why it may not be used, or OK.
func (p *plain) used() api.Errno {
	switch p.state {
	case api.BarNone:
		return api.ErrState
	case api.BarSealed:
		return api.ErrSealed
	}
	return api.OK
}

// anew makes the header anew, of other rows.
func (p *plain) anew(nonce string, rows []row) {
	p.rows = rows
	p.header = headerBy(int(p.header[0]), p.root, nonce, rows...)
}

func (p *plain) rotate(key, nonce string) (uint32, api.Errno) {
	switch {
	case p.used() != api.OK:
		return 0, p.used()
	case len(nonce) != 12 || len(key) != 32:
		return 0, api.ErrArg
	case len(p.rows) == 64 || p.newest().epoch == greatest:
		return 0, api.ErrFull
	}
	epoch := p.newest().epoch + 1
	p.anew(nonce, append(slices.Clip(p.rows), row{epoch, key}))
	return epoch, api.OK
}

func (p *plain) retire(epoch uint32, nonce string) api.Errno {
	has := func(x row) bool { return x.epoch == epoch }
	switch {
	case p.used() != api.OK:
		return p.used()
	case len(nonce) != 12 || epoch == p.newest().epoch:
		return api.ErrArg
	case !slices.ContainsFunc(p.rows, has):
		return api.ErrNone
	}
	p.anew(nonce, slices.DeleteFunc(slices.Clone(p.rows), has))
	return api.OK
}

func (p *plain) newest() row { return p.rows[len(p.rows)-1] }

// get is the text of what was put.
func (p *plain) get(c closing) (string, api.Errno) {
	switch {
	case p.used() != api.OK:
		return "", p.used()
	case slices.Contains(p.rows, c.row):
		return c.text, api.OK
	case slices.Contains(epochsOf(p.rows), c.epoch):
		return "", api.ErrTag
	}
	return "", api.ErrEpoch
}

// pair is a barrier, and what it has to be; what it was some time ago; and what was put.
type pair struct {
	b      *Barrier
	plain  plain
	before plain
	put    []closing
	nonces int // that were handed out
}

// nonce is the next one.
func (x *pair) nonce() string {
	x.nonces++
	return aNonce(x.nonces)
}

// agree says where two answers are unlike.
func agree[T comparable](t *testing.T, about string, got T, err api.Errno, want T, wantErr api.Errno) {
	t.Helper()
	if got != want || err != wantErr {
		t.Errorf("%s: %#v, %v, want %#v, %v", about, got, err, want, wantErr)
	}
}

const (
	steps  = 12 // that step knows
	ofRoot = 2  // shares of the root that begins, and of the other one
	first  = 48 // from which on keys are taken
)

// step does one thing with the barrier.
func (x *pair) step(t *testing.T, n int) {
	t.Helper()
	switch n {
	case 0:
		got, err := x.b.Begin(aKey(1), aKey(first), aNonce(0), someTexts(ofRoot-1)...)
		want, wantErr := x.plain.begin(aKey(1), aKey(first), aNonce(0), someTexts(ofRoot-1))
		if !slices.Equal(got, want) || err != wantErr {
			t.Errorf("P15.1 Begin: %x, %v, want %x, %v", got, err, want, wantErr)
		}
	case 1:
		is(t, "P15.1 Load", x.b.Load(x.before.header), x.plain.load(x.before))
	case 2, 3, 4, 5:
		s := append(sharesBy(aKey(1), someTexts(ofRoot-1)), sharesBy(aKey(2), someTexts(ofRoot-1))[1], headed(1, ofRoot+1, aKey(1)))[n-2]
		got, err := x.b.Unseal(s)
		want, wantErr := x.plain.unseal(s)
		agree(t, "P15.2 Unseal", got, err, want, wantErr)
	case 6:
		is(t, "P15.2 Seal", x.b.Seal(), x.plain.seal())
	case 7, 8:
		nonce := x.nonce()[n-7:]
		got, err := x.b.Rotate(aKey(first+x.nonces), nonce)
		want, wantErr := x.plain.rotate(aKey(first+x.nonces), nonce)
		agree(t, "P15.3 Rotate", got, err, want, wantErr)
	case 9:
		nonce, epoch := x.nonce(), uint32(x.nonces/3)
		is(t, "P15.3 Retire", x.b.Retire(epoch, nonce), x.plain.retire(epoch, nonce))
	case 10:
		x.before = x.plain
		x.b, x.plain = New(), plain{}
	case 11:
		x.puts(t)
	}
}

// puts puts something.
func (x *pair) puts(t *testing.T) {
	t.Helper()
	c := closing{row{}, "a/b", uint64(x.nonces), x.nonce(), "a text"}
	want, wantErr := "", x.plain.used()
	if wantErr == api.OK {
		c.row = x.plain.newest()
		want = c.byRule()
		x.put = append(x.put, c)
	}
	got, err := x.b.Put(c.path, c.version, c.nonce, c.text)
	agree(t, "P15.3 Put", got, err, want, wantErr)
}

// tells says where the barrier is not what it has to be.
func (x *pair) tells(t *testing.T) {
	t.Helper()
	tells(t, "in a row of steps", x.b, x.plain.tells())
	for _, c := range x.put {
		got, err := x.b.Get(c.path, c.version, c.byRule())
		want, wantErr := x.plain.get(c)
		agree(t, "P15.4 Get", got, err, want, wantErr)
	}
}

// started is a pair behind some steps.
func started(t *testing.T, l ...int) *pair {
	t.Helper()
	x := &pair{b: New()}
	for _, n := range l {
		x.step(t, n)
		x.tells(t)
	}
	return x
}

// TestRows: in all rows of three steps, behind some beginnings, a barrier is what the chapter's words make of it.
func TestRows(t *testing.T) {
	for _, first := range [][]int{{}, {0, 11}, {0, 7, 11, 6}, {0, 11, 7, 9, 6, 2}, {0, 7, 7, 11, 10, 1, 3}} {
		for choice := range steps * steps * steps {
			x := started(t, first...)
			for left := choice + steps*steps*steps; left >= steps; left /= steps {
				x.step(t, left%steps)
				x.tells(t)
			}
			if t.Failed() {
				t.Fatalf("the row %d of steps behind %d", choice, first)
			}
		}
	}
}

// TestLongRows: so it is in long rows, which are picked by a rule.
func TestLongRows(t *testing.T) {
	open := 0
	for row := range uint32(40) {
		x, pick := started(t), row
		for range 250 {
			pick = pick*1664525 + 1013904223
			x.step(t, int(pick>>16)%steps)
			x.tells(t)
			if x.plain.state == api.BarOpen {
				open++
			}
			if len(x.put) > 4 {
				x.put = x.put[1:]
			}
			if t.Failed() {
				t.Fatalf("the long row %d", row)
			}
		}
	}
	if open < 1000 {
		t.Errorf("the long rows are open at %d steps alone", open)
	}
}
