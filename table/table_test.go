package table

import (
	"math"
	"slices"
	"strconv"
	"strings"
	"testing"
	"unsafe"

	"scrinium/api"
)

const (
	greatest = math.MaxUint64 // number
	most     = 1 << 12        // bytes of a text
)

// roomy is a quota that no table here fills.
var roomy = api.Quota{Paths: 1 << 20, Bytes: 1 << 30}

func live(n uint64, text string) api.Version { return api.Version{N: n, State: 1, Text: text} }
func gone(n uint64) api.Version              { return api.Version{N: n, State: 2} }
func dead(n uint64) api.Version              { return api.Version{N: n, State: 3} }

// rowOf is a path with these versions, whose last one's number is Last.
func rowOf(p string, l ...api.Version) api.Row {
	c := api.Cell{L: l}
	if len(l) > 0 {
		c.Last = l[len(l)-1].N
	}
	return api.Row{Path: p, Cell: c}
}

// full is a path with MaxKept live versions, from a number on, each of two bytes.
func full(p string, from uint64) api.Row {
	var l []api.Version
	for i := range uint64(8) {
		l = append(l, live(from+i, "v"+strconv.Itoa(int(i))))
	}
	return rowOf(p, l...)
}

// putAny, putAt and so on are edits. What their kinds have not is anything.
func putAny(p, text string) api.Edit {
	return api.Edit{Kind: 1, Path: p, Any: true, Want: 77, N: 78, Text: text}
}
func putAt(p string, want uint64, text string) api.Edit {
	return api.Edit{Kind: 1, Path: p, Want: want, N: 78, Text: text}
}
func deleteAny(p string) api.Edit {
	return api.Edit{Kind: 2, Path: p, Any: true, Want: 77, N: 78, Text: "not looked at"}
}
func deleteAt(p string, want uint64) api.Edit {
	return api.Edit{Kind: 2, Path: p, Want: want, N: 78, Text: strings.Repeat("n", most+1)}
}
func destroyOf(p string, n uint64) api.Edit {
	return api.Edit{Kind: 3, Path: p, Want: 77, N: n, Text: strings.Repeat("n", most+1)}
}

// edits, paths and rows are lists.
func edits(l ...api.Edit) []api.Edit   { return l }
func paths(l ...string) []string       { return l }
func rows(l ...api.Row) []api.Row      { return l }
func versions(l ...uint64) []uint64    { return l }
func quota(paths, bytes int) api.Quota { return api.Quota{Paths: paths, Bytes: bytes} }

// short is a text, or, of a long one, its beginning and how many bytes it has.
func short(s string) string {
	if len(s) <= 600 {
		return s
	}
	return s[:200] + ".. of " + strconv.Itoa(len(s)) + " bytes"
}

// tellRow is a row as a text.
func tellRow(r api.Row) string {
	s := r.Path + "=" + strconv.FormatUint(r.Cell.Last, 10)
	for _, v := range r.Cell.L {
		s += " " + strconv.FormatUint(v.N, 10) + ":" + strconv.Itoa(int(v.State)) + ":" + v.Text
	}
	return s
}

// tellRows are rows as a text.
func tellRows(l []api.Row) string {
	var all []string
	for _, r := range l {
		all = append(all, tellRow(r))
	}
	return strings.Join(all, ";")
}

// tell is what a table has as a text.
func tell(x *Table) string {
	paths, bytes := x.Size()
	return strconv.Itoa(paths) + "," + strconv.Itoa(bytes) + "|" + tellRows(x.Rows())
}

// tellEdits are edits as a text.
func tellEdits(l []api.Edit) string {
	s := strconv.Itoa(len(l)) + " edits"
	for _, e := range l {
		s += " (" + strconv.Itoa(int(e.Kind)) + " " + strconv.Quote(short(e.Path)) + " " + strconv.FormatBool(e.Any) + " " + strconv.FormatUint(e.Want, 10) + " " + strconv.FormatUint(e.N, 10) + " " + strconv.Quote(short(e.Text)) + ")"
	}
	return s
}

// copyOf are the same rows in other memory.
func copyOf(l []api.Row) []api.Row {
	l = slices.Clone(l)
	for i := range l {
		l[i].Cell.L = slices.Clone(l[i].Cell.L)
	}
	return l
}

// byPath are rows by rising paths.
func byPath(l []api.Row) []api.Row {
	l = slices.Clone(l)
	slices.SortFunc(l, func(a, b api.Row) int { return strings.Compare(a.Path, b.Path) })
	return l
}

// bytesOf are how many bytes rows have.
func bytesOf(l []api.Row) int {
	n := 0
	for _, r := range l {
		n += len(r.Path)
		for _, v := range r.Cell.L {
			n += len(v.Text)
		}
	}
	return n
}

// of is a table of a quota that was loaded with rows.
func of(t *testing.T, q api.Quota, l ...api.Row) *Table {
	t.Helper()
	x := New(q)
	if err := x.Load(l...); err != api.OK {
		t.Fatalf("P18.3 Load of %s: %v", short(tellRows(l)), err)
	}
	tells(t, "P18.3 Load", x, l...)
	return x
}

// tells says where a table tells something else than that it has these rows alone.
func tells(t *testing.T, about string, x *Table, l ...api.Row) {
	t.Helper()
	l = byPath(l)
	if paths, bytes := x.Size(); paths != len(l) || bytes != bytesOf(l) {
		t.Fatalf("%s: P18.2 Size %d, %d, want %d, %d", about, paths, bytes, len(l), bytesOf(l))
	}
	if got := tellRows(x.Rows()); got != tellRows(l) {
		t.Fatalf("%s: P18.2 Rows %s, want %s", about, short(got), short(tellRows(l)))
	}
	prefixes := []string{"", "none", "A"}
	for _, r := range l {
		tellsCell(t, about, x, r)
		for i, b := range []byte(r.Path) {
			if b == '/' {
				prefixes = append(prefixes, r.Path[:i])
			}
		}
		prefixes = append(prefixes, r.Path)
	}
	for _, prefix := range prefixes {
		if got := x.List(prefix); !slices.Equal(got, namesByRule(prefix, l)) {
			t.Fatalf("%s: P18.2 List(%q) of %s: %q, want %q", about, prefix, short(tellRows(l)), got, namesByRule(prefix, l))
		}
	}
}

// tellsCell says where a table tells something else of a path than that it has this cell, of one version at least.
func tellsCell(t *testing.T, about string, x *Table, r api.Row) {
	t.Helper()
	newest := r.Cell.L[len(r.Cell.L)-1]
	now := newest.N
	if newest.State != 1 {
		now = 0
	}
	if x.Now(r.Path) != now || x.Last(r.Path) != newest.N {
		t.Fatalf("%s: P18.2 of %s: Now %d, Last %d", about, short(tellRow(r)), x.Now(r.Path), x.Last(r.Path))
	}
	if now != 0 {
		reads(t, x, r.Path, 0, newest, api.OK)
	} else {
		reads(t, x, r.Path, 0, api.Version{}, api.ErrNone)
	}
	for i, v := range r.Cell.L {
		if v.State == 1 {
			reads(t, x, r.Path, v.N, v, api.OK)
		} else {
			reads(t, x, r.Path, v.N, api.Version{}, api.ErrGone)
		}
		if n := v.N - 1; n != 0 && (i == 0 || r.Cell.L[i-1].N != n) {
			reads(t, x, r.Path, n, api.Version{}, api.ErrNone)
		}
	}
	if newest.N != greatest {
		reads(t, x, r.Path, newest.N+1, api.Version{}, api.ErrNone)
	}
}

// namesByRule is what List answers, told by no function of the program.
func namesByRule(prefix string, l []api.Row) []string {
	var names []string
	for _, r := range l {
		p := r.Path
		if r.Cell.L[len(r.Cell.L)-1].State != 1 {
			continue
		}
		if prefix != "" {
			rest, is := strings.CutPrefix(p, prefix+"/")
			if !is {
				continue
			}
			p = rest
		}
		if at := strings.IndexByte(p, '/'); at >= 0 {
			p = p[:at+1]
		}
		if !slices.Contains(names, p) {
			names = append(names, p)
		}
	}
	slices.Sort(names)
	return names
}

// reads says where Read answers something else than is known.
func reads(t *testing.T, x *Table, p string, n uint64, want api.Version, err api.Errno) {
	t.Helper()
	if v, e := x.Read(p, n); v != want || e != err {
		t.Fatalf("P18.2 Read(%q, %d): %d:%d:%s, %v, want %d:%d:%s, %v", p, n, v.N, v.State, short(v.Text), e, want.N, want.State, short(want.Text), err)
	}
}

// tries says where Try answers something else than is known, or changes the table, or what it is handed.
func tries(t *testing.T, x *Table, l []api.Edit, at int, err api.Errno) {
	t.Helper()
	before := tell(x)
	for range 2 {
		in, all := behind(l)
		if gotAt, e := x.Try(in...); gotAt != at || e != err {
			t.Fatalf("P18.1 Try of %s on %s: %d, %v, want %d, %v", tellEdits(l), short(before), gotAt, e, at, err)
		}
		if got := tell(x); got != before {
			t.Fatalf("P18.1 Try of %s changed %s: %s", tellEdits(l), short(before), short(got))
		}
		if !slices.Equal(all, append(slices.Clone(l), others()...)) {
			t.Fatalf("R5 Try of %s changed the caller's slice", tellEdits(l))
		}
	}
}

// others are edits that stand behind the end of a caller's slice.
func others() []api.Edit { return edits(putAny("behind", "b"), deleteAny("behind")) }

// behind are the same edits with others behind their end, and all of them.
func behind(l []api.Edit) (in, all []api.Edit) {
	all = append(slices.Clone(l), others()...)
	return all[:len(l)], all
}

// applies says where Try or Apply answers something else than is known, or what is there then is not these rows.
func applies(t *testing.T, x *Table, l []api.Edit, want []uint64, at int, err api.Errno, then ...api.Row) {
	t.Helper()
	tries(t, x, l, at, err)
	before := tell(x)
	in, all := behind(l)
	got, gotAt, e := x.Apply(in...)
	if !slices.Equal(got, want) || gotAt != at || e != err {
		t.Fatalf("P18.1 Apply of %s on %s: %v, %d, %v, want %v, %d, %v", tellEdits(l), short(before), got, gotAt, e, want, at, err)
	}
	tells(t, "P18.1 Apply of "+tellEdits(l)+" on "+short(before), x, then...)
	if !slices.Equal(all, append(slices.Clone(l), others()...)) {
		t.Fatalf("R5 Apply of %s changed the caller's slice", tellEdits(l))
	}
}

// does says where edits are not done, with these versions and these rows behind them.
func does(t *testing.T, x *Table, l []api.Edit, want []uint64, then ...api.Row) {
	t.Helper()
	applies(t, x, l, want, 0, api.OK, then...)
}

// refused says where edits are not refused with an error and a place, or change anything.
func refused(t *testing.T, x *Table, l []api.Edit, at int, err api.Errno) {
	t.Helper()
	before := x.Rows()
	applies(t, x, l, nil, at, err, before...)
}

// loads says where Load answers something else than is known, or what is there then is not these rows.
func loads(t *testing.T, x *Table, l []api.Row, err api.Errno, then ...api.Row) {
	t.Helper()
	in := copyOf(l)
	if e := x.Load(in...); e != err {
		t.Fatalf("P18.3 Load of %s: %v, want %v", short(tellRows(l)), e, err)
	}
	tells(t, "P18.3 Load of "+short(tellRows(l)), x, then...)
	if tellRows(in) != tellRows(l) {
		t.Fatalf("R5 Load of %s changed the caller's rows: %s", short(tellRows(l)), short(tellRows(in)))
	}
}

// drops says where Drop answers something else than is known, or what is there then is not these rows.
func drops(t *testing.T, x *Table, l []string, want int, then ...api.Row) {
	t.Helper()
	in := slices.Clone(l)
	if n := x.Drop(in...); n != want {
		t.Fatalf("P18.3 Drop of %q: %d, want %d", l, n, want)
	}
	tells(t, "P18.3 Drop", x, then...)
	if !slices.Equal(in, l) {
		t.Fatalf("R5 Drop of %q changed the caller's paths: %q", l, in)
	}
}

// noPaths are texts that are none, and mayPaths such as just are.
func noPaths() []string {
	return paths("", "/", "a/", "/a", "a//b", "A", "a b", "a/B", "\x00", "a\x00", "\u00e9", "a\\b", "..//..", strings.Repeat("p", 33), strings.Repeat("p/", 8)+"p", strings.Repeat(strings.Repeat("p", 31)+"/", 4)+"p", strings.Repeat("p", 1<<16))
}
func mayPaths() []string {
	return paths("a", ".", "..", "-", "_", "0", "a/..", strings.Repeat("p", 32), strings.Repeat("p/", 7)+"p", strings.Repeat(strings.Repeat("p", 31)+"/", 3)+strings.Repeat("p", 32))
}

// R3

// TestNil: of a table that is none, or that New did not make, each call answers ErrNil, or nothing, whatever it is handed.
func TestNil(t *testing.T) {
	for _, x := range []*Table{nil, {}, new(Table)} {
		for _, l := range [][]api.Edit{nil, {}, edits(putAny("a", "x")), edits(putAny("A", "x")), edits(deleteAny("a"), api.Edit{})} {
			if at, err := x.Try(l...); at != 0 || err != api.ErrNil {
				t.Errorf("P18.1 Try of %s on none: %d, %v", tellEdits(l), at, err)
			}
			if got, at, err := x.Apply(l...); got != nil || at != 0 || err != api.ErrNil {
				t.Errorf("P18.1 Apply of %s on none: %v, %d, %v", tellEdits(l), got, at, err)
			}
		}
		for _, p := range paths("a", "", "A") {
			for _, n := range versions(0, 1, greatest) {
				if v, err := x.Read(p, n); (v != api.Version{}) || err != api.ErrNil {
					t.Errorf("P18.2 Read(%q, %d) of none: %v, %v", p, n, v, err)
				}
			}
			if x.Now(p) != 0 || x.Last(p) != 0 || x.List(p) != nil {
				t.Errorf("P18.2 of %q of none: %d, %d, %q", p, x.Now(p), x.Last(p), x.List(p))
			}
			if n := x.Drop(p, p); n != 0 {
				t.Errorf("P18.3 Drop(%q) of none: %d", p, n)
			}
		}
		for _, l := range [][]api.Row{nil, {}, rows(rowOf("a", live(1, "x"))), rows(rowOf("A")), rows(rowOf("a", live(1, "x")), rowOf("a", live(1, "x")))} {
			if err := x.Load(l...); err != api.ErrNil {
				t.Errorf("P18.3 Load of %s on none: %v", tellRows(l), err)
			}
		}
		if paths, bytes := x.Size(); paths != 0 || bytes != 0 || x.Rows() != nil || x.Drop() != 0 {
			t.Errorf("P18.2 Size of none: %d, %d, Rows %v, Drop %d", paths, bytes, x.Rows(), x.Drop())
		}
	}
}

// P18.1

// TestExample is the chapter's.
func TestExample(t *testing.T) {
	x := New(roomy)
	does(t, x, edits(putAny("a", "x"), deleteAny("a"), putAny("b", "y")), versions(1, 2, 1), rowOf("a", live(1, "x"), gone(2)), rowOf("b", live(1, "y")))
}

func TestNewIsEmpty(t *testing.T) {
	for _, q := range []api.Quota{{}, roomy, quota(0, 5), quota(5, 0), quota(-1, -1), quota(math.MinInt, math.MinInt), quota(math.MaxInt, math.MaxInt)} {
		x := New(q)
		tells(t, "P18.1 New", x)
		does(t, x, nil, nil)
		does(t, x, edits(), nil)
		reads(t, x, "a", 0, api.Version{}, api.ErrNone)
		refused(t, x, edits(deleteAny("a")), 0, api.ErrNone)
	}
	one, other := New(roomy), New(roomy)
	does(t, one, edits(putAny("a", "x")), versions(1), rowOf("a", live(1, "x")))
	tells(t, "P18.1 New is another one", other)
}

// TestNoEdits: no edits are done on whatever is there, also if that is more than the quota.
func TestNoEdits(t *testing.T) {
	for _, q := range []api.Quota{roomy, quota(1, 1), quota(0, 0), quota(-5, -5)} {
		l := rows(rowOf("a", live(1, "x")), full("b/c", 7), rowOf("b/d", gone(3)))
		x := of(t, q, l...)
		for range 2 {
			does(t, x, nil, nil, l...)
			does(t, x, edits(), nil, l...)
		}
	}
}

// good are edits that are done, one behind the other, on a table of some rows.
func good() []api.Edit {
	return edits(putAny("g", "1"), putAt("g", 1, "2"), deleteAt("g", 2), putAny("h/i", "3"), destroyOf("h/i", 1))
}

// among are the good edits with another one at a place.
func among(at int, e api.Edit) []api.Edit { return slices.Insert(good(), at, e) }

// refusedAmong says where an edit is not refused, alone, or at each place among good ones.
func refusedAmong(t *testing.T, x *Table, e api.Edit, err api.Errno) {
	t.Helper()
	refused(t, x, edits(e), 0, err)
	for at := range len(good()) + 1 {
		refused(t, x, among(at, e), at, err)
	}
}

func TestKindNone(t *testing.T) {
	x := of(t, roomy, rowOf("a", live(1, "x")))
	for kind := range 256 {
		if kind >= 1 && kind <= 3 {
			continue
		}
		e := api.Edit{Kind: uint8(kind), Path: "a", Any: true, Want: 1, N: 1, Text: "y"}
		if kind < 6 || kind > 250 {
			refusedAmong(t, x, e, api.ErrArg)
		}
		refused(t, x, edits(e), 0, api.ErrArg)
		refused(t, x, edits(putAny("b", "y"), e), 1, api.ErrArg)
	}
}

func TestPathNone(t *testing.T) {
	x := of(t, roomy, rowOf("a", live(1, "x")))
	for _, p := range noPaths() {
		for _, e := range edits(putAny(p, "y"), putAt(p, 0, ""), deleteAny(p), deleteAt(p, 1), destroyOf(p, 1), api.Edit{Path: p}) {
			refusedAmong(t, x, e, api.ErrArg)
		}
	}
	for _, p := range mayPaths() {
		x := New(roomy)
		does(t, x, edits(putAny(p, "y")), versions(1), rowOf(p, live(1, "y")))
		does(t, x, edits(deleteAny(p), putAt(p, 0, "zz"), destroyOf(p, 1)), versions(2, 3, 3), rowOf(p, dead(1), gone(2), live(3, "zz")))
	}
}

// TestNoCell: a path that is not there has a new cell.
func TestNoCell(t *testing.T) {
	l := rows(rowOf("a", live(4, "x")), rowOf("c", gone(2)))
	for _, p := range paths("b", "a/b", "d", "a.b") {
		does(t, of(t, roomy, l...), edits(putAny(p, "y")), versions(1), append(slices.Clone(l), rowOf(p, live(1, "y")))...)
		does(t, of(t, roomy, l...), edits(putAt(p, 0, "")), versions(1), append(slices.Clone(l), rowOf(p, live(1, "")))...)
		x := of(t, roomy, l...)
		refused(t, x, edits(putAt(p, 1, "y")), 0, api.ErrStale)
		refused(t, x, edits(putAt(p, greatest, "y")), 0, api.ErrStale)
		refused(t, x, edits(putAny(p, strings.Repeat("y", most+1))), 0, api.ErrLong)
		for _, e := range edits(deleteAny(p), deleteAt(p, 0), deleteAt(p, 1), destroyOf(p, 0), destroyOf(p, 1), destroyOf(p, greatest)) {
			refused(t, x, edits(e), 0, api.ErrNone)
		}
	}
}

// TestCell: of a path that is there the edit is done on its cell, and leaves others alone.
func TestCell(t *testing.T) {
	a, b, c := rowOf("a", live(4, "x"), dead(5), live(7, "yz")), rowOf("b", live(7, "b")), full("c", 1)
	one := func(e api.Edit, n uint64, then ...api.Row) {
		t.Helper()
		does(t, of(t, roomy, a, b, c), edits(e), versions(n), then...)
	}
	put := rowOf("a", live(4, "x"), dead(5), live(7, "yz"), live(8, "new"))
	one(putAny("a", "new"), 8, put, b, c)
	one(putAt("a", 7, "new"), 8, put, b, c)
	del := rowOf("a", live(4, "x"), dead(5), live(7, "yz"), gone(8))
	one(deleteAny("a"), 8, del, b, c)
	one(deleteAt("a", 7), 8, del, b, c)
	one(destroyOf("a", 4), 7, rowOf("a", dead(4), dead(5), live(7, "yz")), b, c)
	one(destroyOf("a", 7), 7, rowOf("a", live(4, "x"), dead(5), dead(7)), b, c)
	one(putAny("c", "new"), 9, a, b, rowOf("c", append(slices.Clone(c.Cell.L[1:]), live(9, "new"))...))
	one(deleteAt("c", 8), 9, a, b, rowOf("c", append(slices.Clone(c.Cell.L[1:]), gone(9))...))
	for i := range c.Cell.L {
		l := slices.Clone(c.Cell.L)
		l[i] = dead(uint64(i + 1))
		one(destroyOf("c", uint64(i+1)), 8, a, b, rowOf("c", l...))
	}
	one(putAny("b", strings.Repeat("m", most)), 8, a, rowOf("b", live(7, "b"), live(8, strings.Repeat("m", most))), c)
}

// TestLayerErrors: each error of layer 17, at each place, is told with that place.
func TestLayerErrors(t *testing.T) {
	x := of(t, roomy, rowOf("a", live(4, "x"), dead(5), live(7, "yz")), rowOf("b", live(1, "b"), gone(2)), rowOf("c", live(1, "c"), dead(3)), rowOf("z", live(1, "c"), live(greatest, "z")), rowOf("y", gone(greatest)))
	for _, n := range []int{most + 1, most + 2, 1 << 20} {
		refusedAmong(t, x, putAny("a", strings.Repeat("l", n)), api.ErrLong)
		refusedAmong(t, x, putAt("a", 7, strings.Repeat("l", n)), api.ErrLong)
		refusedAmong(t, x, putAny("new", strings.Repeat("l", n)), api.ErrLong)
	}
	for _, n := range versions(0, 1, 4, 5, 6, 8, 7+1<<32, greatest) {
		refusedAmong(t, x, putAt("a", n, "y"), api.ErrStale)
		refusedAmong(t, x, deleteAt("a", n), api.ErrStale)
	}
	refusedAmong(t, x, putAt("b", 2, "y"), api.ErrStale)
	refusedAmong(t, x, putAt("c", 3, "y"), api.ErrStale)
	refusedAmong(t, x, putAt("new", 1, "y"), api.ErrStale)
	for _, e := range edits(putAny("z", "y"), putAt("z", greatest, "y"), deleteAny("z"), deleteAt("z", greatest), putAny("y", "y"), putAt("y", 0, "y")) {
		refusedAmong(t, x, e, api.ErrFull)
	}
	for _, e := range edits(deleteAny("b"), deleteAt("b", 2), deleteAny("c"), deleteAt("c", 0), deleteAny("new"), deleteAny("y"), destroyOf("a", 0), destroyOf("a", 6), destroyOf("a", 8), destroyOf("b", 3), destroyOf("new", 1), destroyOf("z", 2)) {
		refusedAmong(t, x, e, api.ErrNone)
	}
	for _, e := range edits(destroyOf("a", 5), destroyOf("b", 2), destroyOf("c", 3), destroyOf("y", greatest)) {
		refusedAmong(t, x, e, api.ErrGone)
	}
}

// TestErrorsInOrder: where an edit has two errors, the one that stands ahead is told.
func TestErrorsInOrder(t *testing.T) {
	long := strings.Repeat("l", most+1)
	x := of(t, quota(0, 0), rowOf("a", live(greatest, "x")), rowOf("b", gone(3)))
	refused(t, x, edits(putAny("A", long)), 0, api.ErrArg)
	refused(t, x, edits(api.Edit{Kind: 4, Path: "A", Text: long}), 0, api.ErrArg)
	refused(t, x, edits(api.Edit{Kind: 0, Path: "b", Want: 7, Text: long}), 0, api.ErrArg)
	refused(t, x, edits(deleteAt("b/", 9)), 0, api.ErrArg)
	refused(t, x, edits(destroyOf("", 3)), 0, api.ErrArg)
	refused(t, x, edits(putAt("a", 5, long)), 0, api.ErrLong)
	refused(t, x, edits(putAt("a", 5, "y")), 0, api.ErrStale)
	refused(t, x, edits(putAny("a", "y")), 0, api.ErrFull)
	refused(t, x, edits(deleteAt("b", 9)), 0, api.ErrNone)
	refused(t, x, edits(putAny("b", "y")), 1, api.ErrQuota)
}

// TestFirstRefused: of two edits that would be refused the one that stands ahead is told, whatever the other one has.
func TestFirstRefused(t *testing.T) {
	x := of(t, roomy, rowOf("a", live(4, "x"), dead(5), live(7, "yz")), rowOf("z", live(greatest, "z")))
	bad := edits(putAny("A", "y"), api.Edit{Path: "a"}, putAny("a", strings.Repeat("l", most+1)), putAt("a", 6, "y"), putAny("z", "y"), deleteAny("new"), destroyOf("a", 5))
	errs := []api.Errno{api.ErrArg, api.ErrArg, api.ErrLong, api.ErrStale, api.ErrFull, api.ErrNone, api.ErrGone}
	for i, one := range bad {
		for _, other := range bad {
			refused(t, x, edits(one, other), 0, errs[i])
			refused(t, x, edits(putAny("g", "y"), one, other), 1, errs[i])
			refused(t, x, edits(one, putAny("g", "y"), other), 0, errs[i])
			refused(t, x, edits(putAny("a", "y"), putAny("g", "y"), deleteAny("g"), one, putAny("h", "y"), other), 3, errs[i])
		}
	}
}

// TestStandsOn: the second of two edits of one path stands on what the first one made.
func TestStandsOn(t *testing.T) {
	start := func() *Table { return of(t, roomy, rowOf("a", live(1, "x")), rowOf("b", live(1, "y"))) }
	b := rowOf("b", live(1, "y"))
	does(t, start(), edits(putAt("a", 1, "p"), putAt("a", 2, "q")), versions(2, 3), rowOf("a", live(1, "x"), live(2, "p"), live(3, "q")), b)
	refused(t, start(), edits(putAt("a", 1, "p"), putAt("a", 1, "q")), 1, api.ErrStale)
	does(t, start(), edits(putAny("a", "p"), deleteAt("a", 2)), versions(2, 3), rowOf("a", live(1, "x"), live(2, "p"), gone(3)), b)
	refused(t, start(), edits(putAny("a", "p"), deleteAt("a", 1)), 1, api.ErrStale)
	does(t, start(), edits(putAny("a", "p"), destroyOf("a", 2)), versions(2, 2), rowOf("a", live(1, "x"), dead(2)), b)
	does(t, start(), edits(putAny("a", "p"), destroyOf("a", 1)), versions(2, 2), rowOf("a", dead(1), live(2, "p")), b)
	does(t, start(), edits(deleteAny("a"), putAt("a", 0, "p")), versions(2, 3), rowOf("a", live(1, "x"), gone(2), live(3, "p")), b)
	refused(t, start(), edits(deleteAny("a"), putAt("a", 2, "p")), 1, api.ErrStale)
	refused(t, start(), edits(deleteAny("a"), deleteAny("a")), 1, api.ErrNone)
	refused(t, start(), edits(deleteAny("a"), destroyOf("a", 2)), 1, api.ErrGone)
	does(t, start(), edits(deleteAny("a"), destroyOf("a", 1)), versions(2, 2), rowOf("a", dead(1), gone(2)), b)
	does(t, start(), edits(destroyOf("a", 1), putAt("a", 0, "p")), versions(1, 2), rowOf("a", dead(1), live(2, "p")), b)
	refused(t, start(), edits(destroyOf("a", 1), destroyOf("a", 1)), 1, api.ErrGone)
	refused(t, start(), edits(destroyOf("a", 1), deleteAny("a")), 1, api.ErrNone)
	refused(t, start(), edits(destroyOf("a", 2), putAny("a", "p")), 0, api.ErrNone)
	does(t, start(), edits(putAt("c", 0, "p"), putAt("c", 1, "q"), deleteAt("c", 2), destroyOf("c", 1)), versions(1, 2, 3, 3), rowOf("a", live(1, "x")), b, rowOf("c", dead(1), live(2, "q"), gone(3)))
	does(t, start(), edits(putAny("a", "p"), putAny("b", "q"), putAt("a", 2, "r"), destroyOf("b", 1), putAt("b", 2, "s"), deleteAny("a")), versions(2, 2, 3, 2, 3, 4), rowOf("a", live(1, "x"), live(2, "p"), live(3, "r"), gone(4)), rowOf("b", dead(1), live(2, "q"), live(3, "s")))
	near := of(t, roomy, rowOf("a", live(greatest-1, "x")))
	refused(t, near, edits(putAny("a", "y"), putAny("a", "z")), 1, api.ErrFull)
	does(t, near, edits(putAny("a", "y"), destroyOf("a", greatest)), versions(greatest, greatest), rowOf("a", live(greatest-1, "x"), dead(greatest)))
}

// TestVersions: each edit tells what its cell has as Last then, whatever others make of the same path.
func TestVersions(t *testing.T) {
	x := of(t, roomy, full("f", 90), rowOf("k", live(3, "x"), live(9, "y")))
	var l []api.Edit
	var want []uint64
	for i := range uint64(20) {
		l = append(l, putAny("f", "p"), destroyOf("f", 98+i), putAt("n", i, "r"))
		want = append(want, 98+i, 98+i, 1+i)
	}
	l = append(l, destroyOf("k", 3), deleteAny("k"))
	want = append(want, 9, 10)
	var dying, rising []api.Version
	for i := range uint64(8) {
		dying = append(dying, dead(110+i))
		rising = append(rising, live(13+i, "r"))
	}
	does(t, x, l, want, rowOf("f", dying...), rowOf("n", rising...), rowOf("k", dead(3), live(9, "y"), gone(10)))
}

// TestQuotaFilled: what just fills the quota is done, a path or a byte more is refused behind all edits.
func TestQuotaFilled(t *testing.T) {
	refused(t, New(quota(0, 100)), edits(putAny("a", "")), 1, api.ErrQuota)
	refused(t, New(quota(100, 0)), edits(putAny("a", "")), 1, api.ErrQuota)
	refused(t, New(quota(0, 0)), edits(putAny("a", "x"), putAny("b", "")), 2, api.ErrQuota)
	refused(t, New(quota(-1, 100)), edits(putAny("a", "")), 1, api.ErrQuota)
	refused(t, New(quota(math.MinInt, math.MinInt)), edits(putAny("a", "")), 1, api.ErrQuota)
	does(t, New(quota(1, 1)), edits(putAny("a", "")), versions(1), rowOf("a", live(1, "")))
	refused(t, New(quota(1, 1)), edits(putAny("a", "x")), 1, api.ErrQuota)
	refused(t, New(quota(1, 1)), edits(putAny("aa", "")), 1, api.ErrQuota)
	does(t, New(quota(math.MaxInt, math.MaxInt)), edits(putAny("a", "xy")), versions(1), rowOf("a", live(1, "xy")))
	x := New(quota(2, 10))
	does(t, x, edits(putAny("a", "1234"), putAny("b/c", "56")), versions(1, 1), rowOf("a", live(1, "1234")), rowOf("b/c", live(1, "56")))
	refused(t, x, edits(putAny("a", "7")), 1, api.ErrQuota)
	refused(t, x, edits(putAny("d", "")), 1, api.ErrQuota)
	refused(t, x, edits(putAny("a", ""), putAny("b/c", ""), putAny("a", "7")), 3, api.ErrQuota)
	does(t, x, edits(putAny("a", ""), deleteAny("b/c")), versions(2, 2), rowOf("a", live(1, "1234"), live(2, "")), rowOf("b/c", live(1, "56"), gone(2)))
	does(t, x, edits(destroyOf("a", 1)), versions(2), rowOf("a", dead(1), live(2, "")), rowOf("b/c", live(1, "56"), gone(2)))
	refused(t, x, edits(putAny("a", "12345")), 1, api.ErrQuota)
	does(t, x, edits(putAny("a", "1234")), versions(3), rowOf("a", dead(1), live(2, ""), live(3, "1234")), rowOf("b/c", live(1, "56"), gone(2)))
	drops(t, x, paths("b/c"), 1, rowOf("a", dead(1), live(2, ""), live(3, "1234")))
	refused(t, x, edits(putAny("a", "123456")), 1, api.ErrQuota)
	does(t, x, edits(putAny("d", "1234")), versions(1), rowOf("a", dead(1), live(2, ""), live(3, "1234")), rowOf("d", live(1, "1234")))
}

// TestQuotaEach: a quota of each number of paths and bytes, near to what edits make.
func TestQuotaEach(t *testing.T) {
	l := edits(putAny("a", "xyz"), putAny("b/c", ""), putAny("a", "12"), destroyOf("a", 1), putAny("d", "4"))
	then := rows(rowOf("a", dead(1), live(2, "12")), rowOf("b/c", live(1, "")), rowOf("d", live(1, "4")))
	for p := range 6 {
		for b := range 14 {
			x := New(quota(p, b))
			if p >= 3 && b >= 8 {
				does(t, x, l, versions(1, 1, 2, 2, 1), then...)
			} else {
				refused(t, x, l, 5, api.ErrQuota)
			}
		}
	}
}

// TestQuotaBehindAll: the quota is looked at behind all edits alone; what is more in between is no matter, and an edit's error is told ahead of it.
func TestQuotaBehindAll(t *testing.T) {
	x := of(t, quota(1, 5), rowOf("a", live(1, "1234")))
	does(t, x, edits(putAny("a", "123456789"), destroyOf("a", 2)), versions(2, 2), rowOf("a", live(1, "1234"), dead(2)))
	does(t, x, edits(putAny("a", "56"), destroyOf("a", 1)), versions(3, 3), rowOf("a", dead(1), dead(2), live(3, "56")))
	for _, bad := range edits(putAny("A", "y"), deleteAny("new"), destroyOf("a", 1), putAny("a", strings.Repeat("l", most+1))) {
		at, err := x.Try(edits(putAny("b", strings.Repeat("m", most)), putAny("c", "x"), bad)...)
		if at != 2 || err == api.ErrQuota || err == api.OK {
			t.Errorf("P18.1 Try of %s behind such as are more than the quota: %d, %v", tellEdits(edits(bad)), at, err)
		}
		refused(t, x, edits(putAny("b", strings.Repeat("m", most)), putAny("c", "x"), bad), 2, err)
	}
	for n := 1; n < 20; n++ {
		var l []api.Edit
		for i := range n {
			l = append(l, putAny("a", ""), putAny("p"+strconv.Itoa(i), ""))
		}
		refused(t, x, l, 2*n, api.ErrQuota)
	}
}

// TestQuotaKept: what goes because others come makes room in the same call.
func TestQuotaKept(t *testing.T) {
	f := full("f", 1)
	x := of(t, quota(1, 17), f)
	does(t, x, edits(putAny("f", "xy")), versions(9), rowOf("f", append(slices.Clone(f.Cell.L[1:]), live(9, "xy"))...))
	refused(t, x, edits(putAny("f", "xyz")), 1, api.ErrQuota)
	does(t, x, edits(deleteAny("f")), versions(10), rowOf("f", append(slices.Clone(f.Cell.L[2:]), live(9, "xy"), gone(10))...))
	refused(t, x, edits(putAny("f", "12345")), 1, api.ErrQuota)
	does(t, x, edits(putAny("f", "1234")), versions(11), rowOf("f", append(slices.Clone(f.Cell.L[3:]), live(9, "xy"), gone(10), live(11, "1234"))...))
}

// TestQuotaOver: a table that is over its quota already takes what makes that no greater.
func TestQuotaOver(t *testing.T) {
	a, b := rowOf("a", live(1, "12"), live(2, "345")), rowOf("b", live(1, "6789"))
	// Over in both: 2 paths, 11 bytes.
	start := func(q api.Quota) *Table { return of(t, q, a, b) }
	deleted := rowOf("b", live(1, "6789"), gone(2))
	for _, q := range []api.Quota{quota(1, 5), quota(0, 0), quota(-1, -1), quota(1, 100), quota(100, 5), quota(2, 11)} {
		does(t, start(q), nil, nil, a, b)
		does(t, start(q), edits(deleteAny("b")), versions(2), a, deleted)
		does(t, start(q), edits(putAny("b", "")), versions(2), a, rowOf("b", live(1, "6789"), live(2, "")))
		does(t, start(q), edits(destroyOf("b", 1)), versions(1), a, rowOf("b", dead(1)))
		does(t, start(q), edits(destroyOf("a", 1), putAny("a", "xy")), versions(2, 3), rowOf("a", dead(1), live(2, "345"), live(3, "xy")), b)
		does(t, start(q), edits(putAny("b", "wxyz"), destroyOf("b", 1)), versions(2, 2), a, rowOf("b", dead(1), live(2, "wxyz")))
		does(t, start(q), edits(destroyOf("a", 2), putAny("b", "x")), versions(2, 2), rowOf("a", live(1, "12"), dead(2)), rowOf("b", live(1, "6789"), live(2, "x")))
	}
	// More of that which is over.
	refused(t, start(quota(1, 5)), edits(putAny("c", "")), 1, api.ErrQuota)
	refused(t, start(quota(1, 5)), edits(putAny("a", "x")), 1, api.ErrQuota)
	refused(t, start(quota(2, 5)), edits(putAny("a", "x")), 1, api.ErrQuota)
	refused(t, start(quota(2, 11)), edits(putAny("a", "x")), 1, api.ErrQuota)
	refused(t, start(quota(100, 5)), edits(putAny("c", "")), 1, api.ErrQuota)
	refused(t, start(quota(1, 100)), edits(putAny("c", "")), 1, api.ErrQuota)
	refused(t, start(quota(1, 5)), edits(destroyOf("a", 1), putAny("a", "xyz")), 2, api.ErrQuota)
	// More of one, less of the other.
	refused(t, start(quota(1, 5)), edits(destroyOf("b", 1), putAny("c", "")), 2, api.ErrQuota)
	refused(t, start(quota(1, 100)), edits(destroyOf("b", 1), putAny("c", "")), 2, api.ErrQuota)
	refused(t, start(quota(2, 100)), edits(destroyOf("b", 1), putAny("c", "")), 2, api.ErrQuota)
	does(t, start(quota(100, 5)), edits(destroyOf("b", 1), putAny("c", "")), versions(1, 1), a, rowOf("b", dead(1)), rowOf("c", live(1, "")))
	does(t, start(quota(100, 5)), edits(destroyOf("b", 1), putAny("c", "xyz")), versions(1, 1), a, rowOf("b", dead(1)), rowOf("c", live(1, "xyz")))
	refused(t, start(quota(100, 5)), edits(destroyOf("b", 1), putAny("c", "wxyz")), 2, api.ErrQuota)
	does(t, start(quota(3, 5)), edits(destroyOf("b", 1), putAny("c", "xyz")), versions(1, 1), a, rowOf("b", dead(1)), rowOf("c", live(1, "xyz")))
	// More of that which is not over, up to its bound.
	does(t, start(quota(1, 12)), edits(putAny("a", "x")), versions(3), rowOf("a", live(1, "12"), live(2, "345"), live(3, "x")), b)
	refused(t, start(quota(1, 12)), edits(putAny("a", "xy")), 1, api.ErrQuota)
}

// TestQuotaDropped: what was over its quota, and is within again, goes by the quota alone.
func TestQuotaDropped(t *testing.T) {
	a, b, c := rowOf("a", live(1, "12")), rowOf("b", live(1, "6789")), rowOf("c", gone(1))
	x := of(t, quota(2, 6), a, b, c)
	refused(t, x, edits(putAny("a", "x")), 1, api.ErrQuota)
	drops(t, x, paths("c"), 1, a, b)
	refused(t, x, edits(putAny("a", "x")), 1, api.ErrQuota)
	drops(t, x, paths("b"), 1, a)
	does(t, x, edits(putAny("d", "xy")), versions(1), a, rowOf("d", live(1, "xy")))
	refused(t, x, edits(putAny("a", "x")), 1, api.ErrQuota)
	refused(t, x, edits(putAny("e", "")), 1, api.ErrQuota)
	does(t, x, edits(putAny("a", "34"), destroyOf("a", 1)), versions(2, 2), rowOf("a", dead(1), live(2, "34")), rowOf("d", live(1, "xy")))
}

// P18.2

func TestReadKnown(t *testing.T) {
	x := of(t, quota(1, 1), rowOf("a", live(2, "x"), gone(3), live(5, ""), dead(6), live(7, "yz")), rowOf("a/b", live(1, "w"), gone(2)), rowOf("c", live(1, "w"), dead(4)), rowOf("d", live(greatest, strings.Repeat("m", most))))
	for _, p := range noPaths() {
		for _, n := range versions(0, 1, 7, greatest) {
			reads(t, x, p, n, api.Version{}, api.ErrArg)
		}
		if x.Now(p) != 0 || x.Last(p) != 0 {
			t.Errorf("P18.2 of %q, which is no path: Now %d, Last %d", short(p), x.Now(p), x.Last(p))
		}
	}
	for _, p := range append(mayPaths()[1:], "b", "a/b/c", "a/a", "cc") {
		for _, n := range versions(0, 1, 7, greatest) {
			reads(t, x, p, n, api.Version{}, api.ErrNone)
		}
		if x.Now(p) != 0 || x.Last(p) != 0 {
			t.Errorf("P18.2 of %q, which has no cell: Now %d, Last %d", p, x.Now(p), x.Last(p))
		}
	}
	reads(t, x, "a", 0, live(7, "yz"), api.OK)
	reads(t, x, "a", 7, live(7, "yz"), api.OK)
	reads(t, x, "a", 5, live(5, ""), api.OK)
	reads(t, x, "a", 2, live(2, "x"), api.OK)
	for _, n := range versions(1, 4, 8, 2+1<<32, greatest) {
		reads(t, x, "a", n, api.Version{}, api.ErrNone)
	}
	reads(t, x, "a", 3, api.Version{}, api.ErrGone)
	reads(t, x, "a", 6, api.Version{}, api.ErrGone)
	reads(t, x, "a/b", 0, api.Version{}, api.ErrNone)
	reads(t, x, "a/b", 1, live(1, "w"), api.OK)
	reads(t, x, "a/b", 2, api.Version{}, api.ErrGone)
	reads(t, x, "c", 0, api.Version{}, api.ErrNone)
	reads(t, x, "c", 4, api.Version{}, api.ErrGone)
	reads(t, x, "d", 0, live(greatest, strings.Repeat("m", most)), api.OK)
	for p, want := range map[string][2]uint64{"a": {7, 7}, "a/b": {0, 2}, "c": {0, 4}, "d": {greatest, greatest}} {
		if x.Now(p) != want[0] || x.Last(p) != want[1] {
			t.Errorf("P18.2 of %q: Now %d, Last %d, want %v", p, x.Now(p), x.Last(p), want)
		}
	}
}

func TestListKnown(t *testing.T) {
	a := live(1, "x")
	x := of(t, quota(1, 1), rowOf("a", a), rowOf("a/b", a), rowOf("a/b/c", a), rowOf("a/x", a), rowOf("b", a), rowOf("ab/c", a), rowOf("a.b/c", a), rowOf("d/e", a, gone(2)), rowOf("d/f/g", a, dead(2)), rowOf("h", dead(1)), rowOf("h/i", a, gone(2)), rowOf("h/j", gone(1), live(2, "")), rowOf("a/y", gone(1)), rowOf("a/b/d", dead(9)))
	for _, c := range []struct {
		prefix string
		want   []string
	}{
		{"", paths("a", "a.b/", "a/", "ab/", "b", "h/")},
		{"a", paths("b", "b/", "x")}, {"a/b", paths("c")}, {"a/b/c", nil}, {"a/y", nil}, {"ab", paths("c")}, {"a.b", paths("c")}, {"b", nil},
		{"d", nil}, {"d/f", nil}, {"h", paths("j")}, {"none", nil}, {"none/at/all", nil},
		{"a/", nil}, {"/", nil}, {"A", nil}, {"/a", nil}, {"a//b", nil}, {strings.Repeat("p", 33), nil},
	} {
		for range 5 {
			if got := x.List(c.prefix); !slices.Equal(got, c.want) {
				t.Errorf("P18.2 List(%q): %q, want %q", c.prefix, got, c.want)
			}
		}
	}
	if got := New(roomy).List(""); len(got) != 0 {
		t.Errorf("P18.2 List of an empty table: %q", got)
	}
	does(t, New(roomy), edits(putAny("a/b", "x"), deleteAny("a/b")), versions(1, 2), rowOf("a/b", live(1, "x"), gone(2)))
}

// TestListGoes: a path is listed just as long as its last version is live.
func TestListGoes(t *testing.T) {
	x := New(roomy)
	for i, c := range []struct {
		e    api.Edit
		want []string
	}{
		{putAny("p/q", "1"), paths("q")}, {putAny("p/r", "2"), paths("q", "r")}, {deleteAny("p/q"), paths("r")}, {destroyOf("p/q", 1), paths("r")},
		{putAt("p/q", 0, ""), paths("q", "r")}, {destroyOf("p/r", 1), paths("q")}, {putAny("p/q", ""), paths("q")}, {destroyOf("p/q", 3), paths("q")}, {destroyOf("p/q", 4), nil},
	} {
		if _, _, err := x.Apply(c.e); err != api.OK || !slices.Equal(x.List("p"), c.want) {
			t.Errorf("P18.2 List behind edit %d: %v, %q, want %q", i, err, x.List("p"), c.want)
		}
	}
	x.Drop("p/q")
	if n, _ := x.Size(); n != 1 || x.List("") != nil {
		t.Errorf("P18.2 List of a table with no live path: %d paths, %q", n, x.List(""))
	}
}

// TestSizeKnown: all paths count, and all texts that are kept.
func TestSizeKnown(t *testing.T) {
	x := New(roomy)
	size := func(about string, paths, bytes int) {
		t.Helper()
		if p, b := x.Size(); p != paths || b != bytes || len(x.Rows()) != paths {
			t.Errorf("P18.2 Size behind %s: %d, %d, want %d, %d", about, p, b, paths, bytes)
		}
	}
	size("nothing", 0, 0)
	x.Apply(putAny("ab", "123"))
	size("a put", 1, 5)
	x.Apply(putAny("ab", "4"), putAny("c/d", ""))
	size("two more", 2, 9)
	x.Apply(putAny("ab", "4"), putAny("A", ""))
	x.Try(putAny("ab", "56"))
	size("what was refused, or tried", 2, 9)
	x.Apply(deleteAny("ab"))
	size("a delete", 2, 9)
	x.Apply(destroyOf("ab", 1))
	size("a destroy", 2, 6)
	for range 7 {
		x.Apply(putAny("ab", "xy"))
	}
	size("puts, for which the first versions went", 2, 2+14+3)
	x.Apply(putAny("ab", ""))
	size("a put, for which what was deleted went", 2, 2+14+3)
	x.Apply(putAny("ab", ""))
	size("a put, for which a text went", 2, 2+12+3)
	x.Load(rowOf("ab", live(1, "x")))
	size("a load that was refused", 2, 17)
	x.Load(rowOf("abc", live(1, "x")), rowOf("e", gone(1)))
	size("a load", 4, 22)
	x.Drop("ab", "none", "ab")
	size("a drop", 3, 8)
	x.Drop("abc", "e", "c/d")
	size("a drop of all", 0, 0)
}

// TestRowsRise: rows rise by the bytes of their paths, in whatever order they came.
func TestRowsRise(t *testing.T) {
	want := paths("-", ".", "0", "0/0", "_", "a", "a-", "a-b", "a.b", "a/b", "aa", "b", "b.", "z/z/z/z/z/z/z/z")
	for turn := range want {
		x, y := New(roomy), New(roomy)
		for i := range want {
			p := want[(i*5+turn)%len(want)]
			x.Apply(putAny(p, p))
			y.Load(rowOf(p, live(1, p)))
		}
		for _, tb := range []*Table{x, y} {
			var got []string
			for _, r := range tb.Rows() {
				got = append(got, r.Path)
			}
			if !slices.Equal(got, want) {
				t.Fatalf("P18.2 Rows: %q, want %q", got, want)
			}
		}
	}
}

// P18.3

func TestLoadKnown(t *testing.T) {
	a, b, c := rowOf("a", live(1, "x"), gone(2)), full("b/c", 9), rowOf("d", dead(greatest))
	for _, q := range []api.Quota{roomy, quota(3, 40), quota(1, 2), quota(0, 0), quota(-1, -1)} {
		x := New(q)
		loads(t, x, nil, api.OK)
		loads(t, x, rows(), api.OK)
		loads(t, x, rows(a), api.OK, a)
		loads(t, x, nil, api.OK, a)
		loads(t, x, rows(c, b), api.OK, a, b, c)
		loads(t, New(q), rows(c, b, a), api.OK, a, b, c)
		loads(t, New(q), rows(a, b, c), api.OK, a, b, c)
	}
	for _, p := range mayPaths() {
		loads(t, New(roomy), rows(rowOf(p, live(5, "x"))), api.OK, rowOf(p, live(5, "x")))
	}
	long := rowOf("l", live(1, strings.Repeat("m", most)), live(2, strings.Repeat("n", most)))
	loads(t, New(quota(0, 0)), rows(long), api.OK, long)
}

// badRows are such as no table may have.
func badRows() []api.Row {
	var l []api.Row
	for _, p := range noPaths() {
		l = append(l, rowOf(p, live(1, "x")))
	}
	return append(l,
		rowOf("p"), api.Row{Path: "p", Cell: api.Cell{L: []api.Version{}}}, api.Row{Path: "p", Cell: api.Cell{Last: 3}}, api.Row{},
		rowOf("p", live(0, "x")), rowOf("p", live(1, "x"), live(1, "y")), rowOf("p", live(2, "x"), live(1, "y")),
		api.Row{Path: "p", Cell: api.Cell{Last: 2, L: []api.Version{live(1, "x")}}}, api.Row{Path: "p", Cell: api.Cell{L: []api.Version{live(1, "x")}}},
		rowOf("p", api.Version{N: 1}), rowOf("p", api.Version{N: 1, State: 4}), rowOf("p", api.Version{N: 1, State: 2, Text: "x"}), rowOf("p", api.Version{N: 1, State: 3, Text: "x"}),
		rowOf("p", live(1, strings.Repeat("l", most+1))), rowOf("p", append(full("p", 1).Cell.L, live(9, "x"))...), rowOf("A", gone(0)))
}

// TestLoadErrors: a row that may not be, at each place, is ErrArg; one whose path is there, or stands there twice, ErrHave.
func TestLoadErrors(t *testing.T) {
	a, b := rowOf("a", live(3, "x")), rowOf("b/c", gone(2))
	x := of(t, roomy, a, b)
	some := rows(rowOf("e", live(1, "1")), rowOf("f", live(2, "2")), rowOf("g/h", dead(3)))
	for at := range len(some) + 1 {
		for _, bad := range badRows() {
			loads(t, x, rows(bad), api.ErrArg, a, b)
			loads(t, x, slices.Insert(slices.Clone(some), at, bad), api.ErrArg, a, b)
		}
		for _, there := range rows(a, b, rowOf("a", live(1, "other")), full("b/c", 1)) {
			loads(t, x, rows(there), api.ErrHave, a, b)
			loads(t, x, slices.Insert(slices.Clone(some), at, there), api.ErrHave, a, b)
		}
		for _, twice := range append(slices.Clone(some), rowOf("e", live(9, "other")), rowOf("g/h", live(1, ""))) {
			loads(t, x, slices.Insert(slices.Clone(some), at, twice), api.ErrHave, a, b)
		}
	}
	loads(t, x, rows(some[0], some[0]), api.ErrHave, a, b)
	loads(t, x, some, api.OK, append(rows(a, b), some...)...)
	loads(t, x, some[2:], api.ErrHave, append(rows(a, b), some...)...)
}

// TestLoadErrorsInOrder: a row that may not be is told ahead of one that is there already, wherever both stand.
func TestLoadErrorsInOrder(t *testing.T) {
	a := rowOf("a", live(3, "x"))
	x := of(t, quota(0, 0), a)
	e := rowOf("e", live(1, "1"))
	for _, bad := range badRows() {
		loads(t, x, rows(bad, a), api.ErrArg, a)
		loads(t, x, rows(a, bad), api.ErrArg, a)
		loads(t, x, rows(e, e, bad), api.ErrArg, a)
		loads(t, x, rows(bad, e, e), api.ErrArg, a)
		loads(t, x, rows(e, bad, e), api.ErrArg, a)
		loads(t, x, rows(a, e, a, bad), api.ErrArg, a)
	}
	loads(t, x, rows(api.Row{Path: "a"}), api.ErrArg, a)
	loads(t, x, rows(rowOf("a", live(0, ""))), api.ErrArg, a)
	for _, bad := range badRows() {
		loads(t, x, rows(bad, bad), api.ErrArg, a)
	}
}

func TestDropKnown(t *testing.T) {
	a, b, c := rowOf("a", live(1, "x"), gone(2)), full("b/c", 9), rowOf("b", dead(4))
	start := func() *Table { return of(t, quota(1, 3), a, b, c) }
	drops(t, start(), nil, 0, a, b, c)
	drops(t, start(), paths(), 0, a, b, c)
	drops(t, start(), paths("none", "b/d", "b/c/d", "", "A", "a/", strings.Repeat("p", 1000)), 0, a, b, c)
	drops(t, start(), paths("a"), 1, b, c)
	drops(t, start(), paths("b"), 1, a, b)
	drops(t, start(), paths("b/c"), 1, a, c)
	drops(t, start(), paths("a", "a"), 1, b, c)
	drops(t, start(), paths("a", "none", "b", "a", "b", "a"), 2, b)
	drops(t, start(), paths("b/c", "a", "b"), 3)
	drops(t, New(roomy), paths("a"), 0)
	x := start()
	drops(t, x, paths("a"), 1, b, c)
	drops(t, x, paths("a"), 0, b, c)
	reads(t, x, "a", 1, api.Version{}, api.ErrNone)
	refused(t, x, edits(deleteAny("a")), 0, api.ErrNone)
	loads(t, x, rows(rowOf("a", live(8, "back"))), api.OK, rowOf("a", live(8, "back")), b, c)
	drops(t, x, paths("a", "b", "b/c"), 3)
	does(t, x, edits(putAt("a", 0, "xy")), versions(1), rowOf("a", live(1, "xy")))
}

// R5

// scribble writes over rows, over their versions, and over all that has room behind the end of either.
func scribble(l []api.Row) {
	all := l[:cap(l)]
	for i := range all {
		versions := all[i].Cell.L[:cap(all[i].Cell.L)]
		for j := range versions {
			versions[j] = live(7000+uint64(j), "scribbled")
		}
		_ = append(all[i].Cell.L, live(8000, "appended"))
		all[i] = rowOf("scribbled", live(9000, "scribbled"))
	}
	_ = append(l, rowOf("appended"))
}

// withRoom are the same rows, whose versions have room behind their end.
func withRoom(l []api.Row) []api.Row {
	l = slices.Clone(l)
	for i := range l {
		l[i].Cell.L = append(make([]api.Version, 0, 20), l[i].Cell.L...)
	}
	return l
}

// TestRowsApart: who writes into rows that were told, or loaded, changes nothing of a table, nor of other rows that were told; and what a table does changes no rows.
func TestRowsApart(t *testing.T) {
	l := rows(rowOf("a", live(1, "x"), gone(2)), full("b", 5), rowOf("c/d", live(1, "")))
	more := edits(putAny("a", "new"), deleteAny("b"), destroyOf("c/d", 1), putAny("e", "e"))
	in := withRoom(l)
	x, y := New(roomy), New(roomy)
	loads(t, x, nil, api.OK)
	if x.Load(in...) != api.OK || y.Load(in...) != api.OK {
		t.Fatal("P18.3 Load: an error")
	}
	x.Apply(more...)
	if tellRows(in) != tellRows(l) {
		t.Fatalf("R5 what is done to a table changed the caller's rows: %s", tellRows(in))
	}
	tells(t, "R5 what is done to a table changed one that was loaded out of the same rows", y, l...)
	scribble(in)
	tells(t, "R5 who writes into rows that were loaded changed the table", y, l...)
	one, other := y.Rows(), y.Rows()
	scribble(one)
	tells(t, "R5 who writes into rows that were told changed the table", y, l...)
	if tellRows(other) != tellRows(l) {
		t.Fatalf("R5 who writes into rows that were told changed others: %s", tellRows(other))
	}
	for i := range other {
		kept := copyOf(other)
		scribble(other[i : i+1 : i+1])
		for j := range other {
			if j != i && tellRow(other[j]) != tellRow(kept[j]) {
				t.Fatalf("R5 who writes into a row that was told changed another one: %s", tellRow(other[j]))
			}
		}
		other = kept
	}
	kept := y.Rows()
	y.Apply(more...)
	y.Apply(putAny("b", "again"), putAny("a", "again"))
	y.Drop("c/d")
	if tellRows(kept) != tellRows(l) {
		t.Fatalf("R5 what is done to a table changed rows that were told: %s", tellRows(kept))
	}
}

// TestListsApart: what Apply and List answer is the caller's alone.
func TestListsApart(t *testing.T) {
	x := of(t, roomy, rowOf("a", live(1, "x")), rowOf("b/c", live(1, "y")))
	l := edits(putAny("a", "p"), putAny("d", "q"), deleteAny("b/c"))
	in := slices.Clone(l)
	got, _, _ := x.Apply(in...)
	for i := range in {
		in[i] = putAny("scribbled", "scribbled")
	}
	for i := range got[:cap(got)] {
		got[:cap(got)][i] = 99
	}
	then := rows(rowOf("a", live(1, "x"), live(2, "p")), rowOf("d", live(1, "q")), rowOf("b/c", live(1, "y"), gone(2)))
	tells(t, "R5 who writes into edits, or into versions, changed the table", x, then...)
	one, other := x.List(""), x.List("")
	for i := range one[:cap(one)] {
		one[:cap(one)][i] = "scribbled"
	}
	if !slices.Equal(other, paths("a", "d")) || !slices.Equal(x.List(""), paths("a", "d")) {
		t.Fatalf("R5 who writes into names changed others: %q, %q", other, x.List(""))
	}
	in[0], in[1] = putAny("a", "r"), putAny("a", "s")
	if got, _, _ := x.Apply(in[:2]...); !slices.Equal(got, versions(3, 4)) {
		t.Fatalf("P18.1 Apply: %v", got)
	}
	dropped := paths("a", "d")
	x.Drop(dropped...)
	dropped[0], dropped[1] = "x", "y"
	tells(t, "R5 who writes into paths that were dropped", x, then[2])
}

// within is whether a text stands in the memory of another one.
func within(text, other string) bool {
	at, from := uintptr(unsafe.Pointer(unsafe.StringData(text))), uintptr(unsafe.Pointer(unsafe.StringData(other)))
	return len(text) > 0 && at >= from && at < from+uintptr(len(other))
}

// TestKeepsNothing: no path and no text that a table has stands in a caller's memory, so that it keeps no long text alive for a short one.
func TestKeepsNothing(t *testing.T) {
	long := strings.Repeat("some/path.and-text_", 1000)
	p, q, text := long[19:28], long[43:47], long[5:5+most]
	x := New(roomy)
	kept := func(about string) {
		t.Helper()
		for _, r := range x.Rows() {
			if within(r.Path, long) {
				t.Errorf("R5 %s keeps the memory of the path %q", about, r.Path)
			}
			for _, v := range r.Cell.L {
				if within(v.Text, long) {
					t.Errorf("R5 %s keeps the memory of a text of %q", about, r.Path)
				}
			}
		}
	}
	x.Apply(putAny(p, text), putAny(q+"x", "y"))
	kept("Apply")
	x.Apply(putAny(q, ""), deleteAny(p))
	kept("Apply on what is there")
	x.Drop(p)
	if err := x.Load(rowOf(p, live(1, text), gone(2), live(3, text[1:]))); err != api.OK {
		t.Fatalf("P18.3 Load: %v", err)
	}
	kept("Load")
}

// TestMany: a table of many paths goes on as fast as one of few.
func TestMany(t *testing.T) {
	const count = 60000
	x := New(quota(count, 1<<30))
	for i := range count {
		if _, _, err := x.Apply(putAny("p"+strconv.Itoa(i%300)+"/q"+strconv.Itoa(i), "x")); err != api.OK {
			t.Fatalf("P18.1 Apply of put %d: %v", i, err)
		}
	}
	if _, at, err := x.Apply(putAny("one.more", "")); at != 1 || err != api.ErrQuota {
		t.Errorf("P18.1 Apply of a path more: %d, %v", at, err)
	}
	if n, _ := x.Size(); n != count || len(x.List("")) != 300 || len(x.List("p7")) != count/300 {
		t.Errorf("P18.2 of %d paths: %d, %d and %d names", count, n, len(x.List("")), len(x.List("p7")))
	}
}
