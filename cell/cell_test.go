package cell

import (
	"math"
	"slices"
	"strconv"
	"strings"
	"testing"

	"scrinium/api"
	"scrinium/sha"
	"scrinium/word"
)

const (
	greatest = math.MaxUint64 // number
	most     = 1 << 12        // bytes of a text
)

func live(n uint64, text string) api.Version { return api.Version{N: n, State: 1, Text: text} }
func gone(n uint64) api.Version              { return api.Version{N: n, State: 2} }
func dead(n uint64) api.Version              { return api.Version{N: n, State: 3} }

// cellOf is a cell of these versions, whose last one's number is Last.
func cellOf(l ...api.Version) api.Cell {
	c := api.Cell{L: l}
	if len(l) > 0 {
		c.Last = l[len(l)-1].N
	}
	return c
}

// row is a cell of so many live versions, from a number on.
func row(from uint64, count int) api.Cell {
	var l []api.Version
	for i := range uint64(count) {
		l = append(l, live(from+i, "t"+strconv.FormatUint(from+i, 10)))
	}
	return cellOf(l...)
}

// withLast is c with another Last.
func withLast(c api.Cell, last uint64) api.Cell { return api.Cell{Last: last, L: c.L} }

// with is c with another version at a place.
func with(c api.Cell, at int, v api.Version) api.Cell {
	l := slices.Clone(c.L)
	l[at] = v
	return api.Cell{Last: c.Last, L: l}
}

// tellVersion is a version as a text.
func tellVersion(v api.Version) string {
	return strconv.FormatUint(v.N, 10) + ":" + strconv.Itoa(int(v.State)) + ":" + v.Text
}

// tell is a cell as a text.
func tell(c api.Cell) string {
	s := strconv.FormatUint(c.Last, 10)
	for _, v := range c.L {
		s += " " + tellVersion(v)
	}
	return s
}

// equal is whether two cells are the same, told by no function of this package.
func equal(a, b api.Cell) bool { return a.Last == b.Last && slices.Equal(a.L, b.L) }

// short is a text, or, of a long one, its beginning and how many bytes it has.
func short(s string) string {
	if len(s) <= 300 {
		return strconv.Quote(s)
	}
	return strconv.Quote(s[:100]) + ".. of " + strconv.Itoa(len(s)) + " bytes"
}

// kind is which of the calls that answer errors a call is.
type kind string

const (
	aPut     kind = "Put"
	aDelete  kind = "Delete"
	aDestroy kind = "Destroy"
	aRead    kind = "Read"
)

// call is a call, with what it is handed beside the cell: of Destroy and Read the number is n, else want.
type call struct {
	kind   kind
	any    bool
	number uint64
	text   string
}

// String is a call as a text.
func (x call) String() string {
	return string(x.kind) + "(" + strconv.FormatBool(x.any) + ", " + strconv.FormatUint(x.number, 10) + ", " + short(x.text) + ")"
}

// on makes the call; where it answers no cell, that is c.
func (x call) on(c api.Cell) (d api.Cell, v api.Version, e api.Errno) {
	switch x.kind {
	case aPut:
		d, e = Put(c, x.any, x.number, x.text)
	case aDelete:
		d, e = Delete(c, x.any, x.number)
	case aDestroy:
		d, e = Destroy(c, x.number)
	case aRead:
		d = c
		v, e = Read(c, x.number)
	}
	return d, v, e
}

// putAny, putAt and so on are calls.
func putAny(text string) call             { return call{aPut, true, 0, text} }
func putAt(want uint64, text string) call { return call{aPut, false, want, text} }
func deleteAny() call                     { return call{aDelete, true, 0, ""} }
func deleteAt(want uint64) call           { return call{aDelete, false, want, ""} }
func destroyOf(n uint64) call             { return call{aDestroy, false, n, ""} }
func readOf(n uint64) call                { return call{aRead, false, n, ""} }

// mayByRule is whether a cell may be by the chapter's words, told by no function of this package.
func mayByRule(c api.Cell) bool {
	if len(c.L) == 0 {
		return c.Last == 0
	}
	for i, v := range c.L {
		if i > 0 && c.L[i-1].N >= v.N || v.State == 0 || v.State > 3 {
			return false
		}
		if v.State == 1 && len(v.Text) > 4096 || v.State != 1 && len(v.Text) > 0 {
			return false
		}
	}
	return len(c.L) < 9 && c.L[0].N > 0 && c.L[len(c.L)-1].N == c.Last
}

// nowByRule is what a cell is now by the chapter's words.
func nowByRule(c api.Cell) uint64 {
	if len(c.L) == 0 || c.L[len(c.L)-1].State != 1 {
		return 0
	}
	return c.L[len(c.L)-1].N
}

// byRule is what a call answers by the chapter's words, made by no function of this package.
func byRule(c api.Cell, x call) (api.Cell, api.Version, api.Errno) {
	if !mayByRule(c) {
		return c, api.Version{}, api.ErrArg
	}
	if x.kind == aPut || x.kind == aDelete {
		d, err := comesByRule(c, x)
		return d, api.Version{}, err
	}
	if x.kind == aRead && x.number == 0 {
		if nowByRule(c) == 0 {
			return c, api.Version{}, api.ErrNone
		}
		return c, c.L[len(c.L)-1], api.OK
	}
	for i, v := range c.L {
		switch {
		case v.N != x.number:
		case v.State != 1:
			return c, api.Version{}, api.ErrGone
		case x.kind == aRead:
			return c, v, api.OK
		default:
			return with(c, i, dead(v.N)), api.Version{}, api.OK
		}
	}
	return c, api.Version{}, api.ErrNone
}

// comesByRule is what Put and Delete answer of a cell that may be.
func comesByRule(c api.Cell, x call) (api.Cell, api.Errno) {
	now := nowByRule(c)
	if x.kind == aPut && len(x.text) > 4096 {
		return c, api.ErrLong
	}
	if x.kind == aDelete && now == 0 {
		return c, api.ErrNone
	}
	if !x.any && x.number != now {
		return c, api.ErrStale
	}
	if c.Last == greatest {
		return c, api.ErrFull
	}
	v := gone(c.Last + 1)
	if x.kind == aPut {
		v = live(c.Last+1, x.text)
	}
	var l []api.Version
	if len(c.L) == 8 {
		l = append(l, c.L[1:]...)
	} else {
		l = append(l, c.L...)
	}
	return api.Cell{Last: v.N, L: append(l, v)}, api.OK
}

// promise is the one that tells of a call.
func (x call) promise() string {
	if x.kind == aPut || x.kind == aDelete {
		return "P17.2 "
	}
	return "P17.3 "
}

// spares are versions that stand behind the end of a caller's slice.
func spares() []api.Version {
	return []api.Version{live(901, "behind"), gone(902), dead(903), live(904, "")}
}

// roomy is c, whose versions have others behind their end, and all of them.
func roomy(c api.Cell) (api.Cell, []api.Version) {
	all := append(slices.Clone(c.L), spares()...)
	return api.Cell{Last: c.Last, L: all[:len(c.L)]}, all
}

// scribble writes over all versions of a slice, over what has room behind its end, and behind that.
func scribble(l []api.Version) {
	all := l[:cap(l)]
	for i := range all {
		all[i] = live(7000+uint64(i), "scribbled")
	}
	_ = append(l, live(8000, "appended"))
}

// known says where a call answers something else than is known, or does not leave alone what it is handed.
func known(t *testing.T, c api.Cell, x call, want api.Cell, v api.Version, err api.Errno) {
	t.Helper()
	in, all := roomy(c)
	before := slices.Clone(all)
	d, got, e := x.on(in)
	if !equal(d, want) || got != v || e != err {
		t.Fatalf("%s%v of %s: %s, %s, %v, want %s, %s, %v", x.promise(), x, short(tell(c)), short(tell(d)), short(tellVersion(got)), e, short(tell(want)), short(tellVersion(v)), err)
	}
	if !slices.Equal(all, before) {
		t.Fatalf("R5 %v of %s changed the caller's slice", x, short(tell(c)))
	}
	if x.kind != aRead {
		apart(t, c, x, want)
	}
}

// apart says where an answer's versions lie in memory that somebody else has: the caller, or another answer.
func apart(t *testing.T, c api.Cell, x call, want api.Cell) {
	t.Helper()
	in, all := roomy(c)
	before := slices.Clone(all)
	one, _, _ := x.on(in)
	other, _, _ := x.on(in)
	scribble(one.L)
	if !slices.Equal(all, before) {
		t.Fatalf("R5 %v of %s: who writes into the answer changes the caller's slice", x, short(tell(c)))
	}
	if !equal(other, want) {
		t.Fatalf("R5 %v of %s: who writes into one answer changes another one", x, short(tell(c)))
	}
	scribble(all)
	_ = append(in.L, live(9000, "appended"))
	if !equal(other, want) {
		t.Fatalf("R5 %v of %s: who writes into the caller's slice changes the answer", x, short(tell(c)))
	}
}

// ruled says where a call answers something else than the chapter's words tell.
func ruled(t *testing.T, c api.Cell, x call) api.Cell {
	t.Helper()
	d, v, err := byRule(c, x)
	known(t, c, x, d, v, err)
	return d
}

// becomes says where a call does not answer another cell.
func becomes(t *testing.T, c api.Cell, x call, want api.Cell) api.Cell {
	t.Helper()
	known(t, c, x, want, api.Version{}, api.OK)
	return want
}

// tells says where a Read does not answer a version.
func tells(t *testing.T, c api.Cell, n uint64, want api.Version) {
	t.Helper()
	known(t, c, readOf(n), c, want, api.OK)
}

// refused says where a call does not answer an error, and the cell as it was.
func refused(t *testing.T, c api.Cell, x call, err api.Errno) {
	t.Helper()
	known(t, c, x, c, api.Version{}, err)
}

// asked says where May, Now or Size answer something else than is known, or change what they are handed.
func asked(t *testing.T, c api.Cell, may bool, now uint64, size int) {
	t.Helper()
	in, all := roomy(c)
	before := slices.Clone(all)
	if May(in) != may || Now(in) != now || Size(in) != size {
		t.Errorf("P17.1 %s: May %v, Now %d, Size %d, want %v, %d, %d", short(tell(c)), May(in), Now(in), Size(in), may, now, size)
	}
	if !Same(in, c) || !Same(c, in) {
		t.Errorf("P17.1 %s is not the same as itself", short(tell(c)))
	}
	if !slices.Equal(all, before) {
		t.Errorf("R5 May, Now, Size or Same of %s changed the caller's slice", short(tell(c)))
	}
}

// some are cells that may be, from one without versions to full ones.
func some() []api.Cell {
	full := row(1, 8)
	return []api.Cell{
		{}, {L: []api.Version{}},
		cellOf(live(1, "")), cellOf(live(1, "a")), cellOf(gone(1)), cellOf(dead(1)), cellOf(live(9, "z")),
		cellOf(live(1, "a"), live(2, "a")), cellOf(live(1, "a"), gone(2)), cellOf(live(1, "a"), dead(2)), cellOf(gone(1), live(2, "b")), cellOf(dead(1), live(3, "b")), cellOf(gone(1), gone(2), dead(3)),
		cellOf(live(2, "a"), gone(3), live(5, "bc"), dead(7), live(8, "")),
		row(1, 7), full, with(full, 7, gone(8)), with(full, 7, dead(8)), with(full, 0, dead(1)), with(full, 3, gone(4)), row(100, 8),
		cellOf(live(1, "a"), live(greatest-1, "b")), cellOf(live(1, "a"), live(greatest, "b")), cellOf(gone(greatest)), cellOf(dead(greatest)), cellOf(live(greatest-1, "a"), gone(greatest)), row(greatest-7, 8), row(greatest-8, 8),
		cellOf(live(4, strings.Repeat("m", most)), live(5, strings.Repeat("n", most))),
	}
}

// none are cells that may not be.
func none() []api.Cell {
	full := row(1, 8)
	return []api.Cell{
		{Last: 1}, {Last: greatest}, {Last: 1, L: []api.Version{}},
		cellOf(live(0, "a")), cellOf(gone(0)), cellOf(live(0, "a"), live(1, "b")), withLast(cellOf(live(0, "a")), 1),
		cellOf(live(1, "a"), live(1, "a")), cellOf(live(2, "a"), live(1, "b")), cellOf(live(1, "a"), gone(3), live(2, "b")), cellOf(live(1, "a"), live(0, "b")), cellOf(live(greatest, "a"), live(1, "b")), cellOf(gone(2), gone(2), live(3, "c")),
		withLast(cellOf(live(1, "a")), 0), withLast(cellOf(live(1, "a")), 2), withLast(cellOf(live(1, "a"), live(2, "b")), 1), withLast(cellOf(live(1, "a"), live(2, "b")), 3), withLast(full, 9), withLast(full, 7), withLast(full, 0), withLast(full, greatest), withLast(cellOf(live(greatest, "a")), 0),
		row(1, 9), row(1, 16), row(1, 300), with(row(1, 9), 8, gone(9)), row(greatest-8, 9),
		cellOf(api.Version{N: 1}), cellOf(api.Version{N: 1, State: 4}), cellOf(api.Version{N: 1, State: 255, Text: "a"}), with(full, 4, api.Version{N: 5, Text: "a"}), with(full, 7, api.Version{N: 8, State: 4}),
		cellOf(api.Version{N: 1, State: 2, Text: "a"}), cellOf(api.Version{N: 1, State: 3, Text: "a"}), with(full, 0, api.Version{N: 1, State: 3, Text: "a"}), with(full, 7, api.Version{N: 8, State: 2, Text: "\x00"}),
		cellOf(live(1, strings.Repeat("a", most+1))), with(full, 0, live(1, strings.Repeat("a", most+1))), with(full, 7, live(8, strings.Repeat("a", 1<<20))), cellOf(api.Version{N: 1, State: 2, Text: strings.Repeat("a", most)}),
	}
}

// P17.1

func TestMayVersions(t *testing.T) {
	asked(t, api.Cell{}, true, 0, 0)
	asked(t, api.Cell{L: []api.Version{}}, true, 0, 0)
	for _, last := range []uint64{1, 2, 255, 1 << 32, greatest} {
		asked(t, api.Cell{Last: last}, false, 0, 0)
		asked(t, api.Cell{Last: last, L: []api.Version{}}, false, 0, 0)
	}
	for n := 1; n <= 600; n++ {
		c := row(1000, n)
		asked(t, c, n <= 8, 999+uint64(n), 5*n)
		asked(t, withLast(c, 1000+uint64(n)), false, 999+uint64(n), 5*n)
	}
	asked(t, row(1, 8), true, 8, 16)
	asked(t, row(1, 9), false, 9, 18)
	asked(t, row(greatest-7, 8), true, greatest, 8*21)
}

func TestMayRising(t *testing.T) {
	asked(t, cellOf(live(1, "a"), live(2, "b"), live(3, "c")), true, 3, 3)
	asked(t, cellOf(live(3, "a"), live(7, "b"), live(greatest, "c")), true, greatest, 3)
	asked(t, cellOf(live(1, "a"), live(1, "b")), false, 1, 2)
	asked(t, cellOf(live(1, "a"), live(1, "a")), false, 1, 2)
	asked(t, cellOf(live(2, "a"), live(1, "b")), false, 1, 2)
	asked(t, cellOf(live(1, "a"), live(3, "b"), live(2, "c")), false, 2, 3)
	asked(t, cellOf(live(2, "a"), live(1, "b"), live(3, "c")), false, 3, 3)
	asked(t, cellOf(live(1, "a"), live(2, "b"), live(2, "c"), live(3, "d")), false, 3, 4)
	asked(t, cellOf(live(greatest, "a"), live(1, "b")), false, 1, 2)
	asked(t, cellOf(live(0, "a")), false, 0, 1)
	asked(t, cellOf(gone(0)), false, 0, 0)
	asked(t, cellOf(live(0, "a"), live(1, "b")), false, 1, 2)
	asked(t, cellOf(live(0, "a"), live(0, "b")), false, 0, 2)
	full := row(10, 8)
	for i := range full.L {
		for _, n := range []uint64{0, 9, 10, 13, 16, 17, 18, greatest} {
			c := with(full, i, live(n, "x"))
			now := c.L[7].N
			asked(t, c, mayByRule(c), now, Size(full)-2)
			asked(t, withLast(c, now), mayByRule(withLast(c, now)), now, Size(full)-2)
		}
	}
}

func TestMayLast(t *testing.T) {
	for _, c := range []api.Cell{cellOf(live(5, "a")), cellOf(live(3, "a"), live(5, "b")), cellOf(live(1, "a"), live(3, "a"), live(5, "b"))} {
		for _, last := range []uint64{0, 1, 3, 4, 5, 6, 5 + 1<<8, 5 + 1<<32, greatest} {
			asked(t, withLast(c, last), last == 5, 5, len(c.L))
		}
	}
}

// TestMayStates: a version, alone and wherever it stands among others, of each state, with a text and without.
func TestMayStates(t *testing.T) {
	full := row(1, 8)
	for state := range 256 {
		for _, text := range []string{"", "a", "\x00", strings.Repeat("a", most)} {
			v := api.Version{N: 1, State: uint8(state), Text: text}
			may := state == 1 || (state == 2 || state == 3) && text == ""
			now := uint64(0)
			if state == 1 {
				now = 1
			}
			asked(t, cellOf(v), may, now, len(text))
			for at := range full.L {
				v.N = uint64(at + 1)
				now := uint64(8)
				if at == 7 && state != 1 {
					now = 0
				}
				asked(t, with(full, at, v), may, now, 14+len(text))
			}
		}
	}
}

// TestMayTexts: a live version has a text of at most MaxValue bytes, whatever bytes these are.
func TestMayTexts(t *testing.T) {
	full := row(1, 8)
	for _, n := range []int{0, 1, 2, 255, 256, most - 1, most, most + 1, most + 2, 2 * most, 1 << 16, 1<<16 + 1, 1 << 20} {
		for _, letter := range []string{"a", "\x00", "\xff"} {
			text := strings.Repeat(letter, n)
			asked(t, cellOf(live(1, text)), n <= most, 1, n)
			for at := range full.L {
				asked(t, with(full, at, live(uint64(at+1), text)), n <= most, 8, 14+n)
			}
		}
	}
	asked(t, cellOf(live(1, strings.Repeat("\u00e9", most/2))), true, 1, most)
	asked(t, cellOf(live(1, strings.Repeat("\u00e9", most/2)+"a")), false, 1, most+1)
}

func TestMaySome(t *testing.T) {
	for _, c := range some() {
		size := 0
		for _, v := range c.L {
			size += len(v.Text)
		}
		asked(t, c, true, nowByRule(c), size)
	}
	for _, c := range none() {
		size := 0
		for _, v := range c.L {
			size += len(v.Text)
		}
		asked(t, c, false, nowByRule(c), size)
	}
}

func TestNowKnown(t *testing.T) {
	asked(t, cellOf(live(1, "a"), live(2, "b")), true, 2, 2)
	asked(t, cellOf(live(1, "a"), live(2, "")), true, 2, 1)
	asked(t, cellOf(live(1, "a"), gone(2)), true, 0, 1)
	asked(t, cellOf(live(1, "a"), dead(2)), true, 0, 1)
	asked(t, cellOf(gone(1), live(2, "abc")), true, 2, 3)
	asked(t, cellOf(dead(1), live(4, "abc")), true, 4, 3)
	asked(t, cellOf(live(greatest, "")), true, greatest, 0)
	asked(t, cellOf(live(1, "ab"), gone(2), live(3, "cde"), dead(4)), true, 0, 5)
}

// TestStatesAll: what all cells of up to three of some versions are was worked out elsewhere, and is by the chapter's rule.
func TestStatesAll(t *testing.T) {
	var versions []api.Version
	for n := range uint64(4) {
		for state := range uint8(5) {
			versions = append(versions, api.Version{N: n, State: state}, api.Version{N: n, State: state, Text: "x"})
		}
	}
	var all []string
	count := 0
	for size := range 4 {
		eachRow(versions, size, func(l []api.Version) {
			for last := range uint64(4) {
				c := api.Cell{Last: last, L: l}
				if May(c) != mayByRule(c) || Now(c) != nowByRule(c) {
					t.Errorf("P17.1 %s: May %v, Now %d, want %v, %d", tell(c), May(c), Now(c), mayByRule(c), nowByRule(c))
				}
				may := "0"
				if May(c) {
					may = "1"
					count++
				}
				all = append(all, may+" "+strconv.FormatUint(Now(c), 10)+" "+strconv.Itoa(Size(c))+"\n")
			}
		})
	}
	const want = "971ccf83c400aa32bc43d77314a077b2d856e84f5bd0600e4210dcbbb54db0cc"
	if s := word.Hex(sha.Of(all...)); len(all) != 262564 || count != 125 || s != want {
		t.Errorf("P17.1 of %d cells %d may be, the sum %s, want %s", len(all), count, s, want)
	}
}

// eachRow does something with each row of so many versions, the last one of which changes first.
func eachRow(versions []api.Version, size int, do func(l []api.Version)) {
	l := make([]api.Version, size)
	var each func(at int)
	each = func(at int) {
		if at == size {
			do(l)
			return
		}
		for _, v := range versions {
			l[at] = v
			each(at + 1)
		}
	}
	each(0)
}

// other says where two cells that differ are told as the same.
func other(t *testing.T, a, b api.Cell) {
	t.Helper()
	if Same(a, b) || Same(b, a) {
		t.Errorf("P17.1 Same(%s, %s): %v, %v", short(tell(a)), short(tell(b)), Same(a, b), Same(b, a))
	}
}

func TestSameKnown(t *testing.T) {
	empty, none := api.Cell{L: []api.Version{}}, api.Cell{}
	if !Same(empty, none) || !Same(none, empty) || !Same(none, none) || !Same(empty, empty) {
		t.Error("P17.1 Same of cells without versions: false")
	}
	if x := row(1, 3); !Same(api.Cell{L: x.L[:0]}, none) || !Same(none, api.Cell{L: x.L[3:]}) {
		t.Error("P17.1 Same of cells without versions, with room: false")
	}
	other(t, none, api.Cell{Last: 1})
	other(t, empty, api.Cell{Last: 1})
	other(t, none, row(1, 1))
	other(t, row(1, 2), row(1, 3))
	other(t, row(2, 2), row(1, 3))
	other(t, withLast(row(1, 2), 3), row(1, 3))
	other(t, cellOf(live(1, "")), cellOf(gone(1)))
	other(t, cellOf(gone(1)), cellOf(dead(1)))
	other(t, cellOf(live(1, "a"), live(2, "b")), cellOf(live(1, "b"), live(2, "a")))
}

// TestSameAlone: cells that differ in one thing alone, wherever it stands, are not the same.
func TestSameAlone(t *testing.T) {
	for size := 1; size <= 8; size++ {
		c := row(11, size)
		if !Same(c, row(11, size)) {
			t.Errorf("P17.1 Same of two of %s: false", tell(c))
		}
		other(t, c, withLast(c, c.Last+1))
		other(t, c, withLast(c, 0))
		other(t, c, api.Cell{Last: c.Last, L: c.L[:size-1]})
		other(t, c, api.Cell{Last: c.Last, L: c.L[1:]})
		other(t, c, api.Cell{Last: c.Last, L: append(slices.Clone(c.L), live(40, ""))})
		for at, v := range c.L {
			other(t, c, with(c, at, live(v.N+100, v.Text)))
			other(t, c, with(c, at, live(v.N+1<<32, v.Text)))
			other(t, c, with(c, at, live(v.N, v.Text+"x")))
			other(t, c, with(c, at, live(v.N, v.Text[:2]+"x")))
			other(t, c, with(c, at, live(v.N, "")))
			other(t, c, with(c, at, api.Version{N: v.N, State: 2, Text: v.Text}))
			other(t, c, with(c, at, api.Version{N: v.N, State: 0, Text: v.Text}))
			if !Same(c, with(c, at, live(v.N, strings.Clone(v.Text)))) {
				t.Errorf("P17.1 Same of two of %s: false", tell(c))
			}
		}
	}
}

// TestSameEach: of some cells, such as may be and such as may not, two are the same just if they tell the same.
func TestSameEach(t *testing.T) {
	l := append(some(), none()...)
	for _, a := range l {
		for _, b := range l {
			if want := tell(a) == tell(b); Same(a, b) != want {
				t.Errorf("P17.1 Same(%s, %s): %v", short(tell(a)), short(tell(b)), !want)
			}
		}
	}
}

// P17.2, P17.3

// calls are some calls, each with each of these numbers.
func calls(numbers ...uint64) []call {
	var l []call
	for _, n := range numbers {
		for _, text := range []string{"", "yz", strings.Repeat("z", most), strings.Repeat("z", most+1)} {
			l = append(l, call{aPut, false, n, text}, call{aPut, true, n, text})
		}
		l = append(l, call{aDelete, false, n, ""}, call{aDelete, true, n, ""}, destroyOf(n), readOf(n))
	}
	return l
}

// TestExample is the chapter's.
func TestExample(t *testing.T) {
	c := becomes(t, api.Cell{}, putAny("a"), cellOf(live(1, "a")))
	c = becomes(t, c, putAny("b"), cellOf(live(1, "a"), live(2, "b")))
	c = becomes(t, c, deleteAny(), cellOf(live(1, "a"), live(2, "b"), gone(3)))
	refused(t, c, readOf(0), api.ErrNone)
	tells(t, c, 1, live(1, "a"))
	tells(t, c, 2, live(2, "b"))
	refused(t, c, readOf(3), api.ErrGone)
	refused(t, c, readOf(4), api.ErrNone)
}

// TestErrArg: of a cell that may not be each call tells ErrArg, ahead of all else, and it as it was.
func TestErrArg(t *testing.T) {
	for _, c := range none() {
		for _, x := range calls(0, 1, 2, 8, 9, c.Last, c.Last+1, nowByRule(c), greatest) {
			refused(t, c, x, api.ErrArg)
		}
	}
}

func TestPutKnown(t *testing.T) {
	for _, c := range []api.Cell{{}, {L: []api.Version{}}} {
		becomes(t, c, putAny("a"), cellOf(live(1, "a")))
		becomes(t, c, call{aPut, true, 77, "a"}, cellOf(live(1, "a")))
		becomes(t, c, putAt(0, "a"), cellOf(live(1, "a")))
		becomes(t, c, putAt(0, ""), cellOf(live(1, "")))
	}
	becomes(t, cellOf(live(1, "a")), putAt(1, "b"), cellOf(live(1, "a"), live(2, "b")))
	becomes(t, cellOf(live(1, "a")), putAt(1, "a"), cellOf(live(1, "a"), live(2, "a")))
	becomes(t, cellOf(live(1, "a")), putAny("\xff\x00"), cellOf(live(1, "a"), live(2, "\xff\x00")))
	becomes(t, cellOf(live(1, "a"), gone(2)), putAt(0, "b"), cellOf(live(1, "a"), gone(2), live(3, "b")))
	becomes(t, cellOf(live(1, "a"), dead(2)), putAt(0, "b"), cellOf(live(1, "a"), dead(2), live(3, "b")))
	becomes(t, cellOf(gone(4)), putAny(""), cellOf(gone(4), live(5, "")))
	becomes(t, cellOf(live(3, "a"), live(9, "b")), putAt(9, "c"), cellOf(live(3, "a"), live(9, "b"), live(10, "c")))
	becomes(t, cellOf(live(1<<32-1, "a")), putAny("b"), cellOf(live(1<<32-1, "a"), live(1<<32, "b")))
}

// TestPutWant: without any Put takes what the cell is now alone; with any each number.
func TestPutWant(t *testing.T) {
	for _, c := range []api.Cell{{}, cellOf(live(3, "a"), live(5, "b")), cellOf(live(5, "a"), gone(6)), cellOf(live(5, "a"), dead(6)), row(1, 8), with(row(1, 8), 7, gone(8))} {
		now := nowByRule(c)
		next := api.Cell{Last: c.Last + 1, L: append(slices.Clone(c.L), live(c.Last+1, "x"))}
		next.L = next.L[max(0, len(next.L)-8):]
		for _, want := range []uint64{0, 1, 3, 4, 5, 6, 7, 8, 9, 1 << 32, now + 1<<8, now + 1<<32, greatest} {
			if want == now {
				becomes(t, c, putAt(want, "x"), next)
			} else {
				refused(t, c, putAt(want, "x"), api.ErrStale)
			}
			becomes(t, c, call{aPut, true, want, "x"}, next)
		}
	}
}

// TestPutTexts: a text of MaxValue bytes comes, one more is too long; each byte comes as it is.
func TestPutTexts(t *testing.T) {
	for _, n := range []int{0, 1, 2, 255, 256, most - 1, most, most + 1, most + 2, 2 * most, 1 << 16, 1 << 20} {
		for _, letter := range []string{"a", "\x00", "\xff"} {
			text := strings.Repeat(letter, n)
			for _, x := range []call{putAny(text), putAt(0, text)} {
				if n > most {
					refused(t, api.Cell{}, x, api.ErrLong)
				} else {
					becomes(t, api.Cell{}, x, cellOf(live(1, text)))
				}
			}
			if n > most {
				refused(t, row(1, 8), putAt(8, text), api.ErrLong)
			} else {
				becomes(t, row(1, 8), putAt(8, text), cellOf(append(slices.Clone(row(1, 8).L[1:]), live(9, text))...))
			}
		}
	}
	for i := range 256 {
		letter := string([]byte{byte(i)})
		for _, text := range []string{letter, letter + "ab", "a" + letter + "b", "ab" + letter, letter + letter} {
			becomes(t, api.Cell{}, putAny(text), cellOf(live(1, text)))
		}
	}
	if c, err := Put(api.Cell{}, true, 0, strings.Repeat("\u00e9", most/2)); err != api.OK || Size(c) != most {
		t.Errorf("P17.2 Put of a text of MaxValue bytes: %v, %d bytes", err, Size(c))
	}
	if _, err := Put(api.Cell{}, true, 0, strings.Repeat("\u00e9", most/2)+"a"); err != api.ErrLong {
		t.Errorf("P17.2 Put of a text of a byte more: %v", err)
	}
}

// TestLastNumber: behind the greatest number none comes, one ahead of it one more.
func TestLastNumber(t *testing.T) {
	c := cellOf(live(7, "a"), live(greatest-1, "b"))
	becomes(t, c, putAt(greatest-1, "c"), cellOf(live(7, "a"), live(greatest-1, "b"), live(greatest, "c")))
	becomes(t, c, putAny("c"), cellOf(live(7, "a"), live(greatest-1, "b"), live(greatest, "c")))
	becomes(t, c, deleteAt(greatest-1), cellOf(live(7, "a"), live(greatest-1, "b"), gone(greatest)))
	becomes(t, c, deleteAny(), cellOf(live(7, "a"), live(greatest-1, "b"), gone(greatest)))
	becomes(t, row(greatest-8, 8), putAny("c"), cellOf(append(slices.Clone(row(greatest-7, 7).L), live(greatest, "c"))...))
	becomes(t, row(greatest-8, 8), deleteAny(), cellOf(append(slices.Clone(row(greatest-7, 7).L), gone(greatest))...))
	for _, c := range []api.Cell{cellOf(live(greatest, "a")), cellOf(live(7, "a"), live(greatest, "b")), row(greatest-7, 8)} {
		refused(t, c, putAny("c"), api.ErrFull)
		refused(t, c, putAt(greatest, "c"), api.ErrFull)
		refused(t, c, deleteAny(), api.ErrFull)
		refused(t, c, deleteAt(greatest), api.ErrFull)
		tells(t, c, 0, c.L[len(c.L)-1])
		becomes(t, c, destroyOf(greatest), with(c, len(c.L)-1, dead(greatest)))
	}
	for _, c := range []api.Cell{cellOf(gone(greatest)), cellOf(live(7, "a"), dead(greatest))} {
		refused(t, c, putAny("c"), api.ErrFull)
		refused(t, c, putAt(0, "c"), api.ErrFull)
		refused(t, c, deleteAny(), api.ErrNone)
	}
}

// TestMaxKept: where MaxKept versions are there already the first one goes, whatever it is and whatever comes.
func TestMaxKept(t *testing.T) {
	becomes(t, row(1, 7), putAny("x"), cellOf(append(slices.Clone(row(1, 7).L), live(8, "x"))...))
	becomes(t, row(1, 7), deleteAny(), cellOf(append(slices.Clone(row(1, 7).L), gone(8))...))
	gaps := cellOf(live(2, "a"), gone(5), dead(9), live(10, "b"), live(20, "c"), gone(30), dead(31), live(99, "d"))
	for _, c := range []api.Cell{row(1, 8), row(50, 8), with(row(1, 8), 0, gone(1)), with(row(1, 8), 0, dead(1)), with(row(1, 8), 1, dead(2)), gaps} {
		for _, x := range []call{putAny("x"), putAt(c.Last, "x")} {
			becomes(t, c, x, cellOf(append(slices.Clone(c.L[1:]), live(c.Last+1, "x"))...))
		}
		for _, x := range []call{deleteAny(), deleteAt(c.Last)} {
			becomes(t, c, x, cellOf(append(slices.Clone(c.L[1:]), gone(c.Last+1))...))
		}
		refused(t, c, putAt(c.Last+1, "x"), api.ErrStale)
		refused(t, c, deleteAt(0), api.ErrStale)
	}
}

func TestDeleteKnown(t *testing.T) {
	becomes(t, cellOf(live(1, "a")), deleteAny(), cellOf(live(1, "a"), gone(2)))
	becomes(t, cellOf(live(1, "")), deleteAt(1), cellOf(live(1, ""), gone(2)))
	becomes(t, cellOf(gone(1), live(2, "a")), deleteAt(2), cellOf(gone(1), live(2, "a"), gone(3)))
	becomes(t, cellOf(dead(3), live(7, "a")), deleteAny(), cellOf(dead(3), live(7, "a"), gone(8)))
	for _, c := range []api.Cell{{}, {L: []api.Version{}}, cellOf(gone(1)), cellOf(dead(1)), cellOf(live(1, "a"), gone(2)), cellOf(live(1, "a"), dead(2)), with(row(1, 8), 7, gone(8)), with(row(1, 8), 7, dead(8))} {
		for _, want := range []uint64{0, 1, 2, c.Last, greatest} {
			refused(t, c, deleteAt(want), api.ErrNone)
			refused(t, c, call{aDelete, true, want, ""}, api.ErrNone)
		}
	}
	c := cellOf(live(3, "a"), live(5, "b"))
	for _, want := range []uint64{0, 1, 3, 4, 6, 5 + 1<<8, 5 + 1<<32, greatest} {
		refused(t, c, deleteAt(want), api.ErrStale)
		becomes(t, c, call{aDelete, true, want, ""}, cellOf(live(3, "a"), live(5, "b"), gone(6)))
	}
	becomes(t, c, deleteAt(5), cellOf(live(3, "a"), live(5, "b"), gone(6)))
}

// TestErrorsInOrder: where two errors come together, the one that stands ahead is told.
func TestErrorsInOrder(t *testing.T) {
	long := strings.Repeat("a", most+1)
	refused(t, withLast(cellOf(live(greatest, "a")), 5), putAt(9, long), api.ErrArg)
	refused(t, withLast(cellOf(live(5, "a")), greatest), putAny("a"), api.ErrArg)
	refused(t, cellOf(live(1, "a")), putAt(2, long), api.ErrLong)
	refused(t, cellOf(live(greatest, "a")), putAny(long), api.ErrLong)
	refused(t, cellOf(live(greatest, "a")), putAt(1, long), api.ErrLong)
	refused(t, cellOf(live(greatest, "a")), putAt(1, "a"), api.ErrStale)
	refused(t, cellOf(gone(greatest)), putAt(greatest, "a"), api.ErrStale)
	refused(t, withLast(cellOf(gone(5)), greatest), deleteAt(9), api.ErrArg)
	refused(t, cellOf(gone(5)), deleteAt(9), api.ErrNone)
	refused(t, cellOf(gone(greatest)), deleteAt(9), api.ErrNone)
	refused(t, cellOf(dead(greatest)), deleteAt(greatest), api.ErrNone)
	refused(t, cellOf(gone(greatest)), deleteAny(), api.ErrNone)
	refused(t, cellOf(live(greatest, "a")), deleteAt(9), api.ErrStale)
	refused(t, cellOf(live(greatest, "a")), deleteAt(0), api.ErrStale)
	refused(t, withLast(cellOf(gone(5)), 6), destroyOf(5), api.ErrArg)
	refused(t, withLast(cellOf(gone(5)), 6), destroyOf(6), api.ErrArg)
	refused(t, withLast(cellOf(gone(5)), 6), readOf(5), api.ErrArg)
	refused(t, withLast(cellOf(gone(5)), 6), readOf(0), api.ErrArg)
	refused(t, api.Cell{Last: 1}, readOf(0), api.ErrArg)
}

func TestDestroyKnown(t *testing.T) {
	c := cellOf(live(2, "a"), gone(3), live(5, ""), dead(6), live(7, "bc"))
	becomes(t, c, destroyOf(2), with(c, 0, dead(2)))
	becomes(t, c, destroyOf(5), with(c, 2, dead(5)))
	becomes(t, c, destroyOf(7), with(c, 4, dead(7)))
	for _, n := range []uint64{3, 6} {
		refused(t, c, destroyOf(n), api.ErrGone)
		refused(t, c, readOf(n), api.ErrGone)
	}
	for _, n := range []uint64{0, 1, 4, 8, 2 + 1<<8, 2 + 1<<32, greatest} {
		refused(t, c, destroyOf(n), api.ErrNone)
	}
	for _, c := range []api.Cell{{}, {L: []api.Version{}}} {
		for _, n := range []uint64{0, 1, greatest} {
			refused(t, c, destroyOf(n), api.ErrNone)
			refused(t, c, readOf(n), api.ErrNone)
		}
	}
	full := row(1, 8)
	for at := range full.L {
		becomes(t, full, destroyOf(uint64(at+1)), with(full, at, dead(uint64(at+1))))
	}
}

// TestDestroyLast: behind it the cell is not live, and what comes has the next number.
func TestDestroyLast(t *testing.T) {
	for _, c := range []api.Cell{cellOf(live(1, "a")), cellOf(live(1, "a"), live(2, "b")), cellOf(gone(3), live(5, "c")), row(1, 8)} {
		last := c.Last
		d := becomes(t, c, destroyOf(last), with(c, len(c.L)-1, dead(last)))
		asked(t, d, true, 0, Size(c)-len(c.L[len(c.L)-1].Text))
		refused(t, d, readOf(0), api.ErrNone)
		refused(t, d, readOf(last), api.ErrGone)
		refused(t, d, destroyOf(last), api.ErrGone)
		refused(t, d, deleteAny(), api.ErrNone)
		refused(t, d, putAt(last, "x"), api.ErrStale)
		next := append(slices.Clone(d.L), live(last+1, "x"))
		e := cellOf(next[max(0, len(next)-8):]...)
		becomes(t, d, putAt(0, "x"), e)
		becomes(t, d, putAny("x"), e)
		tells(t, e, 0, live(last+1, "x"))
		refused(t, e, readOf(last), api.ErrGone)
	}
}

func TestReadKnown(t *testing.T) {
	c := cellOf(live(2, "a"), gone(3), live(5, ""), dead(6), live(7, "bc"))
	tells(t, c, 0, live(7, "bc"))
	tells(t, c, 2, live(2, "a"))
	tells(t, c, 5, live(5, ""))
	tells(t, c, 7, live(7, "bc"))
	for _, n := range []uint64{1, 4, 8, 2 + 1<<8, 2 + 1<<32, greatest} {
		refused(t, c, readOf(n), api.ErrNone)
	}
	tells(t, cellOf(live(9, "")), 0, live(9, ""))
	tells(t, cellOf(gone(1), live(greatest, "z")), 0, live(greatest, "z"))
	tells(t, cellOf(live(1, strings.Repeat("m", most))), 1, live(1, strings.Repeat("m", most)))
	for _, c := range []api.Cell{{}, {L: []api.Version{}}, cellOf(gone(1)), cellOf(dead(1)), cellOf(live(1, "a"), gone(2)), cellOf(live(1, "a"), live(2, "b"), dead(3)), with(row(1, 8), 7, gone(8))} {
		refused(t, c, readOf(0), api.ErrNone)
	}
	full := row(21, 8)
	for _, v := range full.L {
		tells(t, full, v.N, v)
	}
	tells(t, full, 0, full.L[7])
}

// TestCallsAll: what each call answers of all cells of up to three versions of some numbers was worked out elsewhere, and is by the chapter's rule.
func TestCallsAll(t *testing.T) {
	numbers := []uint64{1, 2, 3, greatest - 1, greatest}
	var all []string
	count := 0
	for _, c := range cells(numbers) {
		for _, n := range append([]uint64{0}, numbers...) {
			for _, x := range callsOf(n) {
				ruled(t, c, x)
				d, v, err := x.on(c)
				told := tell(d)
				if x.kind == aRead {
					told = tellVersion(v)
				}
				if err == api.OK {
					count++
				}
				all = append(all, told+" "+strconv.Itoa(int(err))+"\n")
			}
		}
	}
	const want = "76a012eca0ce7fdaf8173e355b01591aa05e87d3ef98361b4d7b9b527cce706b"
	if s := word.Hex(sha.Of(all...)); len(all) != 49260 || count != 9124 || s != want {
		t.Errorf("P17.2 P17.3 of %d calls %d had no error, the sum %s, want %s", len(all), count, s, want)
	}
}

// cells are all that may be, of up to three versions of rising numbers, those of fewer versions first.
func cells(numbers []uint64) []api.Cell {
	var l []api.Cell
	for size := range 4 {
		var each func(from int, row []uint64)
		each = func(from int, row []uint64) {
			if len(row) == size {
				l = append(l, cellsOf(row)...)
				return
			}
			for i := from; i < len(numbers); i++ {
				each(i+1, append(slices.Clone(row), numbers[i]))
			}
		}
		each(0, nil)
	}
	return l
}

// cellsOf are cells of versions of these numbers, each of which is live, with a text or without, gone, or dead.
func cellsOf(numbers []uint64) []api.Cell {
	var l []api.Cell
	eachRow([]api.Version{live(0, ""), live(0, "x"), gone(0), dead(0)}, len(numbers), func(row []api.Version) {
		row = slices.Clone(row)
		for i := range row {
			row[i].N = numbers[i]
		}
		l = append(l, cellOf(row...))
	})
	return l
}

// callsOf are all calls with a number, in the order in which they were worked out.
func callsOf(n uint64) []call {
	var l []call
	for _, any := range []bool{false, true} {
		for _, text := range []string{"", "yz", strings.Repeat("z", most+1)} {
			l = append(l, call{aPut, any, n, text})
		}
		l = append(l, call{aDelete, any, n, ""})
	}
	return append(l, destroyOf(n), readOf(n))
}

// TestCallsSome: each call of some cells, such as may be and such as may not, is by the chapter's rule.
func TestCallsSome(t *testing.T) {
	for _, c := range append(some(), none()...) {
		for _, x := range calls(0, 1, 2, 3, 5, 7, 8, 9, c.Last-7, c.Last-8, c.Last, c.Last+1, greatest) {
			ruled(t, c, x)
		}
	}
}

// TestCallsFull: each call of all cells of seven and of eight versions, the first, the last and a middle one of which are anything.
func TestCallsFull(t *testing.T) {
	for size := 7; size <= 8; size++ {
		eachRow([]api.Version{live(0, ""), live(0, "x"), gone(0), dead(0)}, 3, func(l []api.Version) {
			c := row(31, size)
			for i, at := range []int{0, 4, size - 1} {
				c.L[at].State, c.L[at].Text = l[i].State, l[i].Text
			}
			for n := uint64(30); n <= 40; n++ {
				for _, x := range callsOf(n) {
					ruled(t, c, x)
				}
			}
		})
	}
}

// P17.4

// story is all that ever came of a secret, from the number 1 on.
type story []api.Version

// does is the story behind a call, and whether there was no error, by what it tells alone.
func (s story) does(x call) (story, bool) {
	last := len(s) > 0 && s[len(s)-1].State == 1
	now := uint64(0)
	if last {
		now = uint64(len(s))
	}
	next := slices.Clone(s)
	switch {
	case x.kind == aPut && (x.any || x.number == now):
		return append(next, live(uint64(len(s)+1), x.text)), true
	case x.kind == aDelete && last && (x.any || x.number == now):
		return append(next, gone(uint64(len(s)+1))), true
	case x.kind == aDestroy && s.shows(x.number):
		next[x.number-1] = dead(x.number)
		return next, true
	}
	return s, false
}

// shows is whether a version is read by its number: it is live, and fewer than MaxKept others came.
func (s story) shows(n uint64) bool {
	return n > 0 && n <= uint64(len(s)) && s[n-1].State == 1 && uint64(len(s)) < n+8
}

// told says where a cell tells another story.
func (s story) told(t *testing.T, c api.Cell) {
	t.Helper()
	if c.Last != uint64(len(s)) || !May(c) {
		t.Fatalf("P17.4 %s behind %d versions: May %v", tell(c), len(s), May(c))
	}
	for n := uint64(1); n <= uint64(len(s)+2); n++ {
		v, err := Read(c, n)
		switch {
		case s.shows(n):
			if v != s[n-1] || err != api.OK {
				t.Fatalf("P17.4 Read(%d) of %s: %s, %v, want %s", n, tell(c), tellVersion(v), err, tellVersion(s[n-1]))
			}
		case err == api.OK || v != api.Version{}:
			t.Fatalf("P17.4 Read(%d) of %s: %s, %v", n, tell(c), tellVersion(v), err)
		}
	}
	v, err := Read(c, 0)
	if is := len(s) > 0 && s[len(s)-1].State == 1; is != (err == api.OK) || is && v != s[len(s)-1] || is != (Now(c) != 0) {
		t.Fatalf("P17.4 Read(0) of %s: %s, %v", tell(c), tellVersion(v), err)
	}
}

// step makes a call of a cell, and says where it is not as its story has it; where there is an error, the cell is as it was.
func (s story) step(t *testing.T, c api.Cell, x call) (story, api.Cell) {
	t.Helper()
	next, can := s.does(x)
	d, _, err := x.on(c)
	if can != (err == api.OK) || !can && !Same(c, d) {
		t.Fatalf("P17.4 %v of %s: %v, %s", x, tell(c), err, tell(d))
	}
	next.told(t, d)
	return next, d
}

// TestStoryAll: all rows of four calls, behind some beginnings, are as their stories have it.
func TestStoryAll(t *testing.T) {
	for _, begin := range []int{0, 1, 5, 7, 8, 12} {
		var s story
		c := api.Cell{}
		for i := range begin {
			s, c = s.step(t, c, putAny("t"+strconv.Itoa(i)))
		}
		var each func(s story, c api.Cell, deep int)
		each = func(s story, c api.Cell, deep int) {
			if deep == 4 {
				return
			}
			n := c.Last
			for _, x := range []call{putAny("a"), putAt(Now(c), "b"), putAt(n+1, "c"), putAt(0, "d"), deleteAny(), deleteAt(n), deleteAt(0), destroyOf(n), destroyOf(n - 1), destroyOf(n - 7), destroyOf(n - 8), destroyOf(0)} {
				s, c := s.step(t, c, x)
				each(s, c, deep+1)
			}
		}
		each(s, c, 0)
	}
}

// TestPutIsRead: what was put is read by its number till MaxKept others came, or it is destroyed; numbers rise by one.
func TestPutIsRead(t *testing.T) {
	for _, before := range []int{0, 1, 3, 7, 8, 20} {
		c := row(1, 0)
		for i := range before {
			c, _ = Put(c, true, 0, "t"+strconv.Itoa(i))
		}
		c, err := Put(c, false, Now(c), "mine")
		mine := c.Last
		if mine != uint64(before+1) || err != api.OK {
			t.Fatalf("P17.4 Put: %d, %v, want %d", mine, err, before+1)
		}
		for others := range 12 {
			want := live(mine, "mine")
			if others < 8 {
				tells(t, c, mine, want)
				refused(t, with(c, slices.Index(c.L, want), dead(mine)), readOf(mine), api.ErrGone)
			} else {
				refused(t, c, readOf(mine), api.ErrNone)
				refused(t, c, destroyOf(mine), api.ErrNone)
			}
			if others%3 == 1 {
				c, err = Delete(c, false, c.Last)
			} else {
				c, err = Put(c, false, Now(c), "other")
			}
			if c.Last != mine+uint64(others)+1 || err != api.OK {
				t.Fatalf("P17.4 the number %d comes behind %d others of %d: %v", c.Last, others, mine, err)
			}
		}
	}
}

// TestStaleChangesNothing: who asks for a version that it was not changes nothing, however often.
func TestStaleChangesNothing(t *testing.T) {
	for _, c := range some() {
		for _, want := range []uint64{0, 1, c.Last - 1, c.Last, c.Last + 1, 77, greatest} {
			if want == nowByRule(c) {
				continue
			}
			d := c
			for range 3 {
				var err api.Errno
				if d, err = Put(d, false, want, "x"); err != api.ErrStale || !Same(c, d) {
					t.Errorf("P17.4 Put of %s, %d wanted: %v, %s", short(tell(c)), want, err, short(tell(d)))
				}
				if d, err = Delete(d, false, want); err == api.OK || !Same(c, d) {
					t.Errorf("P17.4 Delete of %s, %d wanted: %v, %s", short(tell(c)), want, err, short(tell(d)))
				}
			}
		}
	}
}

// TestOneWins: of two who saw the same version the first one's put comes, and the other one's changes nothing.
func TestOneWins(t *testing.T) {
	c := cellOf(live(1, "a"))
	seen := Now(c)
	c = becomes(t, c, putAt(seen, "b"), cellOf(live(1, "a"), live(2, "b")))
	refused(t, c, putAt(seen, "c"), api.ErrStale)
	refused(t, c, deleteAt(seen), api.ErrStale)
	c = becomes(t, c, putAt(2, "c"), cellOf(live(1, "a"), live(2, "b"), live(3, "c")))
	tells(t, c, 0, live(3, "c"))
}

// TestLong: a long row of calls by draws was worked out elsewhere, and is by the chapter's rule.
func TestLong(t *testing.T) {
	x := uint64(1)
	draw := func(n uint64) uint64 {
		x = x*6364136223846793005 + 1442695040888963407
		return x >> 33 % n
	}
	c := api.Cell{}
	var all []string
	for i := range 20000 {
		what, any, off, back := draw(8), draw(2) == 1, draw(3), draw(10)
		want := []uint64{Now(c), 0, c.Last}[off]
		at := uint64(0)
		if back <= c.Last {
			at = c.Last - back
		}
		one := readOf(at)
		switch {
		case what < 4:
			one = call{aPut, any, want, "t" + strconv.Itoa(i)}
		case what < 5:
			one = call{aDelete, any, want, ""}
		case what < 6:
			one = destroyOf(at)
		}
		ruled(t, c, one)
		d, v, err := one.on(c)
		if one.kind == aRead {
			all = append(all, tellVersion(v)+"\n")
		}
		c = d
		all = append(all, tell(c)+" "+strconv.Itoa(int(err))+"\n")
	}
	const sum = "94742cdeb6e79ed87c767805342c9e1c31d0a6f0ef269130f56dd0687c1cac4d"
	if s := word.Hex(sha.Of(all...)); len(all) != 24980 || c.Last != 10027 || s != sum {
		t.Errorf("P17.4 %d lines, at last the number %d, the sum %s, want %s", len(all), c.Last, s, sum)
	}
}

// R5

// TestEmptyWithRoom: a cell without versions whose slice has room behind its end: what comes does not lie there.
func TestEmptyWithRoom(t *testing.T) {
	all := spares()
	in := api.Cell{L: all[:0]}
	for _, x := range []call{putAny("a"), putAny(strings.Repeat("a", most+1)), putAt(1, "a"), deleteAny(), destroyOf(1)} {
		d, _, _ := x.on(in)
		scribble(d.L)
		if !slices.Equal(all, spares()) {
			t.Fatalf("R5 %v of a cell without versions changed what stands behind its end", x)
		}
	}
	in.Last = 5
	d, err := Put(in, true, 0, "a")
	scribble(d.L)
	if err != api.ErrArg || !slices.Equal(all, spares()) {
		t.Fatalf("R5 Put of a cell that may not be: %v, %v", err, all)
	}
}

// TestGoneOnApart: cells that went on from one cell in two ways share nothing.
func TestGoneOnApart(t *testing.T) {
	for size := range 10 {
		from, _ := roomy(row(1, size))
		if size > 8 {
			from, _ = roomy(with(row(2, 8), 7, gone(9)))
		}
		grown, _ := Put(from, true, 0, "grown")
		one, _ := Put(grown, true, 0, "one")
		other, _ := Put(grown, true, 0, "other")
		deleted, _ := Delete(grown, true, 0)
		destroyed, _ := Destroy(grown, grown.Last)
		n := grown.Last
		tells(t, grown, 0, live(n, "grown"))
		tells(t, one, 0, live(n+1, "one"))
		tells(t, other, 0, live(n+1, "other"))
		refused(t, deleted, readOf(n+1), api.ErrGone)
		tells(t, deleted, n, live(n, "grown"))
		refused(t, destroyed, readOf(n), api.ErrGone)
	}
}
