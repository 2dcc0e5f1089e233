package table

import (
	"slices"
	"strconv"
	"strings"
	"testing"

	"scrinium/api"
	"scrinium/cell"
	"scrinium/path"
	"scrinium/sha"
	"scrinium/word"
)

// plain is a table by the chapter's words, made by no function of this package: its rows, in no order, none of which is ever changed.
type plain struct {
	quota api.Quota
	rows  []api.Row
}

// at is the place of a path's row; -1, if there is none.
func (p plain) at(s string) int {
	return slices.IndexFunc(p.rows, func(r api.Row) bool { return r.Path == s })
}

// with is p with a row more, or in the place of that which its path has.
func (p plain) with(r api.Row) plain {
	p.rows = slices.Clone(p.rows)
	if at := p.at(r.Path); at >= 0 {
		p.rows[at] = r
	} else {
		p.rows = append(p.rows, r)
	}
	return p
}

// edit is what one edit makes, and its version.
func (p plain) edit(e api.Edit) (plain, uint64, api.Errno) {
	if e.Kind < 1 || e.Kind > 3 || !path.May(e.Path) {
		return p, 0, api.ErrArg
	}
	r := api.Row{Path: e.Path}
	if at := p.at(e.Path); at >= 0 {
		r = p.rows[at]
	}
	var err api.Errno
	switch e.Kind {
	case 1:
		r.Cell, err = cell.Put(r.Cell, e.Any, e.Want, e.Text)
	case 2:
		r.Cell, err = cell.Delete(r.Cell, e.Any, e.Want)
	case 3:
		r.Cell, err = cell.Destroy(r.Cell, e.N)
	}
	if err != api.OK {
		return p, 0, err
	}
	return p.with(r), r.Cell.Last, api.OK
}

// apply is what edits make, and what Apply answers.
func (p plain) apply(l []api.Edit) (plain, []uint64, int, api.Errno) {
	next := p
	var versions []uint64
	for at, e := range l {
		var n uint64
		var err api.Errno
		if next, n, err = next.edit(e); err != api.OK {
			return p, nil, at, err
		}
		versions = append(versions, n)
	}
	morePaths := len(next.rows) > p.quota.Paths && len(next.rows) > len(p.rows)
	moreBytes := bytesOf(next.rows) > p.quota.Bytes && bytesOf(next.rows) > bytesOf(p.rows)
	if morePaths || moreBytes {
		return p, nil, len(l), api.ErrQuota
	}
	return next, versions, 0, api.OK
}

// load is what rows make, and what Load answers.
func (p plain) load(l []api.Row) (plain, api.Errno) {
	for _, r := range l {
		if !path.May(r.Path) || !cell.May(r.Cell) || len(r.Cell.L) == 0 {
			return p, api.ErrArg
		}
	}
	next := p
	for _, r := range l {
		if next.at(r.Path) >= 0 {
			return p, api.ErrHave
		}
		next = next.with(r)
	}
	return next, api.OK
}

// drop is what is left behind paths that go, and how many went.
func (p plain) drop(l []string) (plain, int) {
	were := len(p.rows)
	p.rows = slices.DeleteFunc(slices.Clone(p.rows), func(r api.Row) bool { return slices.Contains(l, r.Path) })
	return p, were - len(p.rows)
}

// tell is what it has, as a table tells it.
func (p plain) tell() string {
	return strconv.Itoa(len(p.rows)) + "," + strconv.Itoa(bytesOf(p.rows)) + "|" + tellRows(byPath(p.rows))
}

// again is a table loaded out of another one's rows.
func again(t *testing.T, q api.Quota, x *Table) *Table {
	t.Helper()
	y := New(q)
	if err := y.Load(x.Rows()...); err != api.OK || tell(y) != tell(x) {
		t.Fatalf("P18.4 Load of the rows of %s: %v, %s", short(tell(x)), err, short(tell(y)))
	}
	return y
}

// tellVersions are versions as a text.
func tellVersions(l []uint64) string {
	var all []string
	for _, n := range l {
		all = append(all, strconv.FormatUint(n, 10))
	}
	return strings.Join(all, ",")
}

// both makes Try and Apply of a table and of what it has to be, and says where they are unlike; it answers what is there then, and all as a text.
func both(t *testing.T, x *Table, p plain, l []api.Edit) (plain, string) {
	t.Helper()
	next, versions, at, err := p.apply(l)
	if gotAt, e := x.Try(l...); gotAt != at || e != err || tell(x) != p.tell() {
		t.Fatalf("P18.1 Try of %s on %s: %d, %v, want %d, %v; %s behind it", tellEdits(l), p.tell(), gotAt, e, at, err, tell(x))
	}
	got, gotAt, e := x.Apply(l...)
	if !slices.Equal(got, versions) || gotAt != at || e != err || tell(x) != next.tell() {
		t.Fatalf("P18.1 Apply of %s on %s: %v, %d, %v, want %v, %d, %v; %s behind it", tellEdits(l), p.tell(), got, gotAt, e, versions, at, err, tell(x))
	}
	return next, strconv.Itoa(gotAt) + " " + strconv.Itoa(int(e)) + " " + tellVersions(got) + " " + tell(x) + "\n"
}

// fewEdits are edits on few paths, such as are done and such as are not.
func fewEdits() []api.Edit {
	return []api.Edit{
		{Kind: 1, Path: "a", Any: true, Text: "x"},
		{Kind: 1, Path: "a", Want: 0, Text: "yy"},
		{Kind: 1, Path: "a", Want: 1, Text: "zzz"},
		{Kind: 1, Path: "a", Want: 2, Text: ""},
		{Kind: 2, Path: "a", Any: true},
		{Kind: 2, Path: "a", Want: 1},
		{Kind: 3, Path: "a", N: 1},
		{Kind: 3, Path: "a", N: 2},
		{Kind: 1, Path: "a/b", Any: true, Text: "w"},
		{Kind: 2, Path: "a/b", Any: true},
		{Kind: 3, Path: "a/b", N: 1},
		{Kind: 1, Path: "c", Any: true, Text: "vvvvvv"},
		{Kind: 0, Path: "a", Any: true},
		{Kind: 1, Path: "A", Any: true},
	}
}

// begins are rows of some tables.
func begins() [][]api.Row {
	return [][]api.Row{
		nil,
		{rowOf("a", live(1, "x"))},
		{rowOf("a", live(1, "x"), gone(2)), rowOf("a/b", live(1, "1234"))},
		{rowOf("a", live(1, "123"), live(2, "")), rowOf("a/b", dead(1)), rowOf("c", gone(greatest))},
	}
}

// someQuotas are roomy, near to what few edits make, and less than that.
func someQuotas() []api.Quota {
	return []api.Quota{roomy, quota(2, 9), quota(1, 100), quota(100, 7), quota(0, 0)}
}

// eachOf does something with each row of so many of the edits, the last one of which changes first.
func eachOf(l []api.Edit, size int, do func(l []api.Edit)) {
	row := make([]api.Edit, size)
	var each func(at int)
	each = func(at int) {
		if at == size {
			do(row)
			return
		}
		for _, e := range l {
			row[at] = e
			each(at + 1)
		}
	}
	each(0)
}

// TestAllRows: what all rows of up to three edits do on some tables was worked out elsewhere, and is by the chapter's words.
func TestAllRows(t *testing.T) {
	var all []string
	done := 0
	for _, begin := range begins() {
		for _, q := range someQuotas() {
			for size := range 4 {
				eachOf(fewEdits(), size, func(l []api.Edit) {
					x := New(q)
					x.Load(begin...)
					_, told := both(t, x, plain{q, begin}, l)
					if strings.HasPrefix(told, "0 0 ") {
						done++
					}
					all = append(all, told)
				})
			}
		}
	}
	const want = "344d9b8e5661623c553b036d77089cbd149fa3e02e182d708884d267bdba5eea"
	if s := word.Hex(sha.Of(all...)); len(all) != 59100 || done != 2779 || s != want {
		t.Errorf("P18.1 of %d rows of edits %d were done, the sum %s, want %s", len(all), done, s, want)
	}
}

// P18.4

// TestOneByOne: edits at once are the same as one behind the other, or, if one is refused, nothing.
func TestOneByOne(t *testing.T) {
	for _, begin := range begins() {
		for size := range 4 {
			eachOf(fewEdits(), size, func(l []api.Edit) {
				atOnce, one := New(roomy), New(roomy)
				atOnce.Load(begin...)
				one.Load(begin...)
				before := tell(one)
				var want []uint64
				at, err := 0, api.OK
				for i, e := range l {
					n, place, e := one.Apply(e)
					if e != api.OK {
						if at, err = i, e; n != nil || place != 0 {
							t.Fatalf("P18.4 Apply of edit %d of %s on %s: %v, %d, %v", i, tellEdits(l), before, n, place, e)
						}
						break
					}
					want = append(want, n...)
				}
				then := tell(one)
				if err != api.OK {
					want, then = nil, before
				}
				got, place, e := atOnce.Apply(l...)
				if !slices.Equal(got, want) || place != at || e != err || tell(atOnce) != then {
					t.Fatalf("P18.4 Apply of %s on %s: %v, %d, %v, want %v, %d, %v; %s, want %s", tellEdits(l), before, got, place, e, want, at, err, tell(atOnce), then)
				}
			})
		}
	}
}

// TestOneByOneInQuota: where each edit alone is within the quota, all are at once.
func TestOneByOneInQuota(t *testing.T) {
	for _, begin := range begins() {
		for _, q := range someQuotas() {
			eachOf(fewEdits(), 3, func(l []api.Edit) {
				atOnce, one := New(q), New(q)
				atOnce.Load(begin...)
				one.Load(begin...)
				for _, e := range l {
					if _, _, err := one.Apply(e); err != api.OK {
						return
					}
				}
				if _, _, err := atOnce.Apply(l...); err != api.OK || tell(atOnce) != tell(one) {
					t.Fatalf("P18.4 Apply of %s at once: %v, %s, want %s", tellEdits(l), err, tell(atOnce), tell(one))
				}
			})
		}
	}
}

// TestLoadedIsThat: a table that was loaded out of another one's rows is that, also behind all that is done to both; and what is done to one alone the other one does not see.
func TestLoadedIsThat(t *testing.T) {
	x := New(roomy)
	x.Load(rowOf("a", live(1, "123"), live(2, "")), rowOf("c", gone(greatest)), full("f", 3))
	for i, e := range append(fewEdits(), putAny("f", "p"), destroyOf("f", 9), deleteAny("f"), putAny("a", strings.Repeat("m", most))) {
		y, z := again(t, roomy, x), again(t, roomy, x)
		before := tell(x)
		got, at, err := x.Apply(e)
		if tell(z) != before {
			t.Fatalf("P18.4 edit %d of one changed another one: %s", i, short(tell(z)))
		}
		other, otherAt, otherErr := y.Apply(e)
		if !slices.Equal(got, other) || at != otherAt || err != otherErr || tell(x) != tell(y) {
			t.Fatalf("P18.4 edit %d: %v, %d, %v, and of the one that was loaded %v, %d, %v", i, got, at, err, other, otherAt, otherErr)
		}
		z.Drop("a", "f")
		z.Apply(putAny("a", "other"), putAny("c.d", "other"))
		if tell(x) != tell(y) {
			t.Fatalf("P18.4 what is done to one that was loaded changed another one: %s", short(tell(x)))
		}
		p, q := x.Rows(), y.Rows()
		tells(t, "P18.4 one", x, q...)
		tells(t, "P18.4 the one that was loaded", y, p...)
	}
	if n, _ := x.Size(); n < 4 {
		t.Errorf("P18.4 only %d paths", n)
	}
}

// draws are numbers in a row that is always the same.
type draws uint64

// draw is the next one, below n.
func (d *draws) draw(n uint64) uint64 {
	*d = *d*6364136223846793005 + 1442695040888963407
	return uint64(*d) >> 33 % n
}

// drawnPaths are those that a long row is about.
func drawnPaths() []string {
	return paths("a", "b", "a/b", "a/c", "b/c/d", "e.f/g", "h", "No")
}

// edit is the next edit on a table.
func (d *draws) edit(x *Table, i int) api.Edit {
	p := drawnPaths()[min(d.draw(10), d.draw(8), 7)]
	kind := []uint8{1, 1, 1, 1, 1, 1, 2, 2, 3, 3, 3, 1, 1, 2, 3, 4}[d.draw(16)]
	any := d.draw(4) > 0
	want := versions(x.Now(p), 0, x.Last(p))[d.draw(3)]
	n := x.Last(p)
	if back := d.draw(6); back <= n {
		n -= back
	}
	return api.Edit{Kind: kind, Path: p, Any: any, Want: want, N: n, Text: strings.Repeat("t", int(d.draw(9))) + strconv.Itoa(i)}
}

// row is the next row that is loaded.
func (d *draws) row(i int) api.Row {
	p := drawnPaths()[d.draw(8)]
	n := d.draw(8)
	return rowOf(p, live(n, strings.Repeat("l", int(d.draw(20)))), gone(n+1+d.draw(2)), live(n+2+d.draw(3), strconv.Itoa(i)))
}

// TestLong: a long row of calls by draws was worked out elsewhere, and is by the chapter's words.
func TestLong(t *testing.T) {
	d := draws(1)
	p := plain{quota: quota(5, 90)}
	x := New(p.quota)
	var all []string
	for i := range 20000 {
		told := ""
		switch what := d.draw(12); {
		case what < 6:
			var l []api.Edit
			for range d.draw(5) {
				l = append(l, d.edit(x, i))
			}
			p, told = both(t, x, p, l)
		case what < 8:
			var l []api.Row
			for range d.draw(3) {
				l = append(l, d.row(i))
			}
			next, err := p.load(l)
			if e := x.Load(l...); e != err || tell(x) != next.tell() {
				t.Fatalf("P18.3 Load of %s on %s: %v, want %v", tellRows(l), p.tell(), e, err)
			}
			p, told = next, strconv.Itoa(int(err))+" "+tell(x)+"\n"
		case what < 9:
			var l []string
			for range d.draw(4) {
				l = append(l, drawnPaths()[d.draw(8)])
			}
			next, n := p.drop(l)
			if got := x.Drop(l...); got != n || tell(x) != next.tell() {
				t.Fatalf("P18.3 Drop of %q on %s: %d, want %d", l, p.tell(), got, n)
			}
			p, told = next, strconv.Itoa(n)+" "+tell(x)+"\n"
		case what < 10:
			told = strings.Join(x.List(append(drawnPaths(), "")[d.draw(9)]), " ") + "\n"
		case what < 11:
			s := drawnPaths()[d.draw(8)]
			v, err := x.Read(s, d.draw(x.Last(s)+2))
			told = strconv.FormatUint(v.N, 10) + " " + strconv.Itoa(int(v.State)) + " " + v.Text + " " + strconv.Itoa(int(err)) + " " + tellVersions(versions(x.Now(s), x.Last(s))) + "\n"
		default:
			x = again(t, p.quota, x)
		}
		all = append(all, told)
	}
	const want = "a40faeba53407bbb030b6d179c91badb1068dde657c8a21b0ac02b5e428d4f4c"
	if s := word.Hex(sha.Of(all...)); len(all) != 20000 || s != want {
		t.Errorf("P18.4 %d lines, the sum %s, want %s", len(all), s, want)
	}
}
