package undo

import (
	"math"
	"reflect"
	"slices"
	"strings"
	"testing"

	"lectionary/api"
	"lectionary/doc"
	"lectionary/op"
	"lectionary/tree"
)

var begin = api.Elem{}

func el(site, seq, i int) api.Elem { return api.Elem{Site: site, Seq: seq, I: i} }

func write(site, seq int, after api.Elem, s string, gone ...api.Elem) api.Op {
	return api.Op{Site: site, Seq: seq, Kind: api.KindEdit, After: after, Text: s, Gone: gone}
}

func cut(site, seq int, gone ...api.Elem) api.Op { return write(site, seq, begin, "", gone...) }

func toggle(site, seq, of, num, gen int) api.Op {
	return api.Op{Site: site, Seq: seq, Kind: api.KindToggle, Of: of, Num: num, Gen: gen}
}

func row(l ...api.Op) []api.Op { return l }

func elems(l ...api.Elem) []api.Elem { return l }

func plus(l []api.Op, more ...api.Op) []api.Op { return slices.Concat(l, more) }

// writes are n ops of one site that each write s at the begin.
func writes(site, n int, s string) []api.Op {
	var l []api.Op
	for i := range n {
		l = append(l, write(site, i+1, begin, s))
	}
	return l
}

// runes is a row of site 1 whose texts have n runes, in as few ops as can be.
func runes(n int) []api.Op {
	l := writes(1, n/api.MaxRunes, strings.Repeat("ß", api.MaxRunes))
	if n%api.MaxRunes == 0 {
		return l
	}
	return append(l, write(1, len(l)+1, begin, strings.Repeat("é", n%api.MaxRunes)))
}

// chain is a row of MaxOps edits of three sites, each of which stands behind the one ahead, or takes it away.
func chain() []api.Op {
	l := row(write(1, 1, begin, "a"))
	for n := 1; n < api.MaxOps; n++ {
		last := el(l[n-1].Site, l[n-1].Seq, 0)
		o := write(1+n%3, 1+n/3, last, "é")
		if n%2 == 0 {
			o = write(o.Site, o.Seq, begin, "ß", last)
		}
		l = append(l, o)
	}
	return l
}

// some is a row in which a few lean: on 1, 1 all edits but 3, 1 and 2, 2 do. Of it 2, 1 is not effective.
func some() []api.Op {
	return row(write(1, 1, begin, "aßc"), write(2, 1, el(1, 1, 0), "xy"), write(3, 1, begin, "q"), toggle(1, 2, 2, 1, 0),
		cut(3, 2, el(1, 1, 2)), write(2, 2, el(3, 1, 0), "z"), write(1, 3, el(2, 1, 1), "w", el(3, 1, 0)), toggle(2, 3, 3, 2, 7), cut(1, 4, el(1, 3, 0), el(2, 2, 0)))
}

// badRows are rows that may not be.
func badRows() map[string][]api.Op {
	a := write(1, 1, begin, "ab")
	return map[string][]api.Op{
		"an op that may not be":    row(a, api.Op{}),
		"a first number 2":         row(a, write(2, 2, begin, "a")),
		"a name twice":             row(a, a),
		"After of no op":           row(a, write(2, 1, el(3, 1, 0), "x")),
		"Gone not rising":          row(a, cut(2, 1, el(1, 1, 1), el(1, 1, 0))),
		"a toggle of a toggle":     row(a, toggle(2, 1, 1, 1, 0), toggle(3, 1, 2, 1, 0)),
		"more ops than MaxOps":     writes(1, api.MaxOps+1, "a"),
		"more runes than MaxElems": runes(api.MaxElems + 1),
		"very many ops":            writes(1, 100000, "a"),
	}
}

// smallRows are all rows that may be of "ab" and up to four ops more out of a few that touch each other.
func smallRows() [][]api.Op {
	a, b, x := el(1, 1, 0), el(1, 1, 1), el(2, 1, 0)
	more := []api.Op{
		write(2, 0, begin, "xy"), write(2, 0, a, "v", b), write(3, 0, x, "éz", a, x), cut(3, 0, a), cut(1, 0, b, x),
		toggle(1, 0, 1, 1, 0), toggle(1, 0, 2, 1, 0), toggle(3, 0, 2, 1, 0), toggle(2, 0, 3, 1, 0),
	}
	rows := [][]api.Op{nil, row(write(1, 1, begin, "ab"))}
	for from, n := 1, 0; n < 4; n++ {
		longer := rows[from:]
		from = len(rows)
		for _, l := range longer {
			for _, o := range more {
				o.Seq = 1 + ofSite(l, o.Site)
				if m := plus(l, o); tree.Check(m) == api.OK {
					rows = append(rows, m)
				}
			}
		}
	}
	return rows
}

// ofSite tells how many ops of a site a row has.
func ofSite(l []api.Op, site int) int {
	n := 0
	for _, o := range l {
		if o.Site == site {
			n++
		}
	}
	return n
}

// dice are numbers that look like any, and are the same each time.
type dice uint64

func (d *dice) below(n int) int {
	*d = *d*6364136223846793005 + 1442695040888963407
	return int(*d>>33) % n
}

// madeUp is a row that may be of MaxOps ops of all kinds: some lean on few or on many, many are toggled.
func madeUp(seed int) []api.Op {
	d := dice(seed+1) * 2654435761 // seeds that are near each other begin far apart
	sites := 1 + d.below(api.MaxSites)
	l := row(write(1, 1, begin, "ab"))
	all := elems(el(1, 1, 0), el(1, 1, 1))
	for len(l) < api.MaxOps {
		site := 1 + d.below(sites)
		o := write(site, 1+ofSite(l, site), begin, "")
		edits := namesOf(l)
		switch d.below(4) {
		case 0:
			of := edits[d.below(len(edits))]
			n, _ := doc.Count(l, of.Site, of.Seq)
			o = toggle(site, o.Seq, of.Site, of.Seq, n+d.below(4)/3)
		case 1:
			o.Gone = picked(&d, all)
		default:
			o.Text = strings.Repeat("é", 1+d.below(4))
			if d.below(3) > 0 {
				o.After = all[d.below(len(all))]
			}
			if d.below(3) == 0 {
				o.Gone = picked(&d, all)
			}
		}
		for i := range []rune(o.Text) {
			all = append(all, el(o.Site, o.Seq, i))
		}
		l = append(l, o)
	}
	return l
}

// picked are a few of all, rising.
func picked(d *dice, all []api.Elem) []api.Elem {
	var l []api.Elem
	for range 1 + d.below(3) {
		l = append(l, all[d.below(len(all))])
	}
	return sorted(l)
}

// sorted tells l rising, each once.
func sorted(l []api.Elem) []api.Elem {
	slices.SortFunc(l, func(a, b api.Elem) int {
		switch {
		case op.Less(a, b):
			return -1
		case op.Less(b, a):
			return 1
		}
		return 0
	})
	return slices.Compact(l)
}

// manyRows are rows that may be, small and great.
func manyRows() [][]api.Op {
	rows := append(smallRows(), some(), chain())
	for seed := range 60 {
		rows = append(rows, madeUp(seed))
	}
	return rows
}

// namesOf are the names of a row's edits.
func namesOf(l []api.Op) []api.Elem {
	var all []api.Elem
	for _, o := range l {
		if o.Kind == api.KindEdit {
			all = append(all, el(o.Site, o.Seq, 0))
		}
	}
	return all
}

// opOf tells the op of a name. There must be one.
func opOf(l []api.Op, x api.Elem) api.Op {
	return l[slices.IndexFunc(l, func(o api.Op) bool { return isOf(x, o) })]
}

// isOf tells whether an element, or a name, is of o.
func isOf(x api.Elem, o api.Op) bool { return x.Site == o.Site && x.Seq == o.Seq }

// leansByWords tells by the words which edits lean on the edit of a name: first those with an element of it, then those with one of these, and so on.
func leansByWords(l []api.Op, x api.Elem) []api.Elem {
	var found []api.Elem
	newest := elems(x)
	for len(newest) > 0 {
		var next []api.Elem
		for _, o := range l {
			me := el(o.Site, o.Seq, 0)
			touches := func(y api.Elem) bool { return isOf(y, opOf(l, newest[0])) }
			if (touches(o.After) || slices.ContainsFunc(o.Gone, touches)) && !slices.Contains(found, me) {
				found, next = append(found, me), append(next, me)
			}
		}
		newest = append(newest[1:], next...)
	}
	return sorted(found)
}

// goesWith tells whether an op goes where the edit of a name does.
func goesWith(o api.Op, x api.Elem) bool {
	return isOf(x, o) || o.Kind == api.KindToggle && o.Of == x.Site && o.Num == x.Seq
}

// withoutByWords tells by the words the row without the edit of a name: each number is less by how many went of that site with lower ones.
func withoutByWords(l []api.Op, x api.Elem) []api.Op {
	lower := func(site, seq int) int {
		n := 0
		for _, o := range l {
			if goesWith(o, x) && o.Site == site && o.Seq < seq {
				n++
			}
		}
		return seq - n
	}
	var rest []api.Op
	for _, o := range copied(l) {
		if goesWith(o, x) {
			continue
		}
		o.Seq, o.Num, o.After.Seq = lower(o.Site, o.Seq), lower(o.Of, o.Num), lower(o.After.Site, o.After.Seq)
		for i, e := range o.Gone {
			o.Gone[i].Seq = lower(e.Site, e.Seq)
		}
		rest = append(rest, o)
	}
	return rest
}

// isEffective tells whether the edit of a name is effective.
func isEffective(l []api.Op, x api.Elem) bool {
	is, _ := doc.Effective(l, x.Site, x.Seq)
	return is
}

// goneByWords tells by the words which elements go by the edit of a name alone.
func goneByWords(l []api.Op, x api.Elem) []api.Elem {
	all, _ := tree.Order(l)
	return slices.DeleteFunc(all, func(e api.Elem) bool {
		if !slices.Contains(opOf(l, x).Gone, e) || !isEffective(l, x) || !isEffective(l, e) {
			return true
		}
		return slices.ContainsFunc(l, func(o api.Op) bool {
			return slices.Contains(o.Gone, e) && !isOf(x, o) && isEffective(l, el(o.Site, o.Seq, 0))
		})
	})
}

// same tells whether two rows are the same: an empty Gone is as good as none.
func same(a, b []api.Op) bool {
	return slices.EqualFunc(a, b, func(x, y api.Op) bool {
		if !slices.Equal(x.Gone, y.Gone) {
			return false
		}
		x.Gone, y.Gone = nil, nil
		return reflect.DeepEqual(x, y)
	})
}

// copied is a row that has nothing in common with l.
func copied(l []api.Op) []api.Op {
	m := slices.Clone(l)
	for i := range m {
		m[i].Gone = slices.Clone(m[i].Gone)
	}
	return m
}

// textOf tells the text of a row that may be.
func textOf(t *testing.T, l []api.Op) string {
	t.Helper()
	s, e := doc.Text(l)
	if e != api.OK {
		t.Fatalf("no text of %v: %v", l, e)
	}
	return s
}

// visibleOf tells the visible elements of a row that may be.
func visibleOf(t *testing.T, l []api.Op) []api.Elem {
	t.Helper()
	seen, e := doc.Visible(l)
	if e != api.OK {
		t.Fatalf("nothing visible of %v: %v", l, e)
	}
	return seen
}

// checkErr asks for an error of all calls, and nothing else.
func checkErr(t *testing.T, name string, l []api.Op, site, seq int, want api.Errno) {
	t.Helper()
	a, e := Leans(l, site, seq)
	b, f := Without(l, site, seq)
	c, d, g := Trace(l, site, seq)
	if len(a)+len(b)+len(c)+len(d) != 0 || e != want || f != want || g != want {
		t.Fatalf("%s: %d, %d: %v, %v; %v, %v; %v, %v, %v; want %v alone", name, site, seq, a, e, b, f, c, d, g, want)
	}
}

// P8.1: Leans

func TestLeansOfRows(t *testing.T) {
	abc := write(1, 1, begin, "abc")
	a, c := el(1, 1, 0), el(1, 1, 2)
	for _, k := range []struct {
		name string
		l    []api.Op
		want []api.Elem
	}{
		{"alone", row(abc), nil},
		{"behind the begin", row(abc, write(2, 1, begin, "x")), nil},
		{"After", row(abc, write(2, 1, c, "x")), elems(el(2, 1, 0))},
		{"Gone", row(abc, cut(2, 1, c)), elems(el(2, 1, 0))},
		{"After and Gone", row(abc, write(2, 1, a, "x", a, c)), elems(el(2, 1, 0))},
		{"After one, Gone of another one", row(write(2, 1, begin, "v"), abc, write(3, 1, el(2, 1, 0), "x", c)), elems(el(3, 1, 0))},
		{"After of another one, Gone of both", row(abc, write(2, 1, begin, "v"), write(3, 1, el(2, 1, 0), "x", a, el(2, 1, 0))), elems(el(3, 1, 0))},
		{"its own site", row(abc, write(1, 2, c, "x")), elems(el(1, 2, 0))},
		{"one of the same number of another site", row(write(2, 1, begin, "v"), abc, write(3, 1, el(2, 1, 0), "x")), nil},
		{"another one of the same site", row(write(1, 1, begin, "v"), write(1, 2, begin, "u"), write(2, 1, el(1, 2, 0), "x")), nil},
		{"toggles lean on none", row(abc, toggle(2, 1, 1, 1, 0), toggle(1, 2, 1, 1, 1)), nil},
		{"on one that leans", row(abc, write(2, 1, c, "x"), cut(3, 1, el(2, 1, 0))), elems(el(2, 1, 0), el(3, 1, 0))},
		{"rising, not in the row's order", row(abc, write(8, 1, c, "x"), cut(3, 1, el(8, 1, 0)), cut(3, 2, a), write(2, 1, c, "y"), write(1, 2, el(2, 1, 0), "z")),
			elems(el(1, 2, 0), el(2, 1, 0), el(3, 1, 0), el(3, 2, 0), el(8, 1, 0))},
		{"on two that lean", row(abc, write(2, 1, a, "x"), write(3, 1, c, "y"), cut(4, 1, el(2, 1, 0), el(3, 1, 0))), elems(el(2, 1, 0), el(3, 1, 0), el(4, 1, 0))},
		{"on one that is not effective", row(abc, toggle(2, 1, 1, 1, 0), write(2, 2, a, "x")), elems(el(2, 2, 0))},
		{"one that is not effective", row(abc, write(2, 1, a, "x"), toggle(2, 2, 2, 1, 0)), elems(el(2, 1, 0))},
		{"by one that is not effective", row(abc, write(2, 1, a, "x"), toggle(2, 2, 2, 1, 0), cut(3, 1, el(2, 1, 0))), elems(el(2, 1, 0), el(3, 1, 0))},
		{"what is gone already", row(abc, cut(2, 1, a), cut(3, 1, a)), elems(el(2, 1, 0), el(3, 1, 0))},
	} {
		if got, e := Leans(k.l, 1, 1); !slices.Equal(got, k.want) || e != api.OK {
			t.Errorf("%s: %v, %v; want %v", k.name, got, e, k.want)
		}
	}
}

func TestNoneLeansOnTheLastOp(t *testing.T) {
	for _, l := range manyRows() {
		if len(l) == 0 || l[len(l)-1].Kind != api.KindEdit {
			continue
		}
		last := l[len(l)-1]
		if got, e := Leans(l, last.Site, last.Seq); len(got) != 0 || e != api.OK {
			t.Fatalf("on the last one of %v: %v, %v", l, got, e)
		}
	}
}

func TestAllOfAChainLean(t *testing.T) {
	l := chain()
	for n, o := range l {
		want := sorted(namesOf(l[n+1:]))
		if got, e := Leans(l, o.Site, o.Seq); !slices.Equal(got, want) || e != api.OK {
			t.Errorf("%d: %v, %v; want %v", n, got, e, want)
		}
	}
}

func TestLeansIsByTheWords(t *testing.T) {
	for _, l := range manyRows() {
		for _, x := range namesOf(l) {
			want := leansByWords(l, x)
			if got, e := Leans(l, x.Site, x.Seq); !slices.Equal(got, want) || e != api.OK {
				t.Fatalf("Leans(%v, %v) = %v, %v; want %v", l, x, got, e, want)
			}
		}
	}
}

// P8.1: Without

func TestWithoutTellsTheRow(t *testing.T) {
	ab, v := write(1, 1, begin, "ab"), write(2, 1, begin, "v")
	for _, k := range []struct {
		name      string
		l         []api.Op
		site, seq int
		want      []api.Op
	}{
		{"the only one", row(ab), 1, 1, nil},
		{"the only one, and its toggles", row(ab, toggle(1, 2, 1, 1, 0), toggle(3, 1, 1, 1, 1)), 1, 1, nil},
		{"the last one", row(ab, v), 2, 1, row(ab)},
		{"the first one", row(ab, v), 1, 1, row(v)},
		{"ahead of its site's others", row(ab, write(1, 2, begin, "c"), write(1, 3, el(1, 2, 0), "d")), 1, 1, row(write(1, 1, begin, "c"), write(1, 2, el(1, 1, 0), "d"))},
		{"between its site's others", row(ab, write(1, 2, begin, "c"), write(1, 3, el(1, 1, 1), "d")), 1, 2, row(ab, write(1, 2, el(1, 1, 1), "d"))},
		{"a cut", row(ab, cut(2, 1, el(1, 1, 0)), write(2, 2, el(1, 1, 0), "x")), 2, 1, row(ab, write(2, 1, el(1, 1, 0), "x"))},
		{"a toggle of another site goes", row(v, ab, toggle(2, 2, 1, 1, 0), write(2, 3, el(2, 1, 0), "w")), 1, 1, row(v, write(2, 2, el(2, 1, 0), "w"))},
		{"toggles that do not count go", row(v, ab, toggle(2, 2, 1, 1, 3), toggle(3, 1, 1, 1, 0), toggle(2, 3, 1, 1, 0), write(3, 2, begin, "x"), write(2, 4, begin, "y")), 1, 1,
			row(v, write(3, 1, begin, "x"), write(2, 2, begin, "y"))},
		{"numbers ahead of a toggle stay, those behind do not", row(v, ab, write(2, 2, begin, "w"), toggle(2, 3, 1, 1, 0), write(2, 4, el(2, 2, 0), "x"), toggle(2, 5, 1, 1, 1), write(2, 6, el(2, 4, 0), "y", el(2, 1, 0), el(2, 2, 0))), 1, 1,
			row(v, write(2, 2, begin, "w"), write(2, 3, el(2, 2, 0), "x"), write(2, 4, el(2, 3, 0), "y", el(2, 1, 0), el(2, 2, 0)))},
		{"toggles of others stay, by their new names", row(ab, write(1, 2, begin, "c"), toggle(2, 1, 1, 2, 4), toggle(2, 2, 1, 1, 0), toggle(2, 3, 1, 2, 0)), 1, 1,
			row(write(1, 1, begin, "c"), toggle(2, 1, 1, 1, 4), toggle(2, 2, 1, 1, 0))},
		{"toggles of one of the same number stay", row(v, ab, toggle(3, 1, 2, 1, 0), toggle(3, 2, 1, 1, 0), toggle(3, 3, 2, 1, 1)), 1, 1, row(v, toggle(3, 1, 2, 1, 0), toggle(3, 2, 2, 1, 1))},
		{"Gone of more sites", row(v, ab, write(1, 2, begin, "cd"), toggle(2, 2, 1, 1, 0), write(2, 3, begin, "é"), cut(3, 1, el(1, 2, 0), el(1, 2, 1), el(2, 1, 0), el(2, 3, 0))), 1, 1,
			row(v, write(1, 1, begin, "cd"), write(2, 2, begin, "é"), cut(3, 1, el(1, 1, 0), el(1, 1, 1), el(2, 1, 0), el(2, 2, 0)))},
		{"one that leans on others", some(), 1, 4, some()[:8]},
	} {
		got, e := Without(k.l, k.site, k.seq)
		if !same(got, k.want) || e != api.OK {
			t.Errorf("%s: %v, %v; want %v", k.name, got, e, k.want)
		}
	}
}

func TestWithoutOneOnWhichOthersLean(t *testing.T) {
	ab := write(1, 1, begin, "ab")
	for name, l := range map[string][]api.Op{
		"After":                            row(ab, write(2, 1, el(1, 1, 1), "x")),
		"Gone":                             row(ab, cut(2, 1, el(1, 1, 0))),
		"its own site":                     row(ab, cut(1, 2, el(1, 1, 1))),
		"not effective":                    row(ab, write(2, 1, el(1, 1, 0), "x"), toggle(1, 2, 1, 1, 0)),
		"the one that leans not effective": row(ab, cut(2, 1, el(1, 1, 0)), toggle(1, 2, 2, 1, 0)),
		"many lean":                        chain(),
	} {
		if got, e := Without(l, 1, 1); len(got) != 0 || e != api.ErrState {
			t.Errorf("%s: %v, %v; want ErrState alone", name, got, e)
		}
	}
}

func TestWithoutIsByTheWords(t *testing.T) {
	for _, l := range manyRows() {
		for _, x := range namesOf(l) {
			got, e := Without(l, x.Site, x.Seq)
			if len(leansByWords(l, x)) > 0 {
				if len(got) != 0 || e != api.ErrState {
					t.Fatalf("Without(%v, %v) = %v, %v; want ErrState alone", l, x, got, e)
				}
				continue
			}
			if want := withoutByWords(l, x); !same(got, want) || e != api.OK {
				t.Fatalf("Without(%v, %v) = %v, %v; want %v", l, x, got, e, want)
			}
			if e := tree.Check(got); e != api.OK {
				t.Fatalf("Without(%v, %v) = %v, which may not be: %v", l, x, got, e)
			}
		}
	}
}

// A row loses op by op from behind, and in the end is empty, however full it was.
func TestWithoutOneByOne(t *testing.T) {
	toggled := row(write(1, 1, begin, "a"))
	for n := range api.MaxOps - 1 {
		toggled = append(toggled, toggle(2, n+1, 1, 1, n))
	}
	full := runes(api.MaxElems)
	all, _ := tree.Order(full)
	for name, l := range map[string][]api.Op{"a chain": chain(), "toggles": toggled, "MaxElems go": plus(full, cut(2, 1, sorted(all)...))} {
		for len(l) > 0 {
			edits := namesOf(l)
			last := edits[len(edits)-1]
			got, e := Without(l, last.Site, last.Seq)
			if want := withoutByWords(l, last); !same(got, want) || len(got) >= len(l) || e != api.OK {
				t.Fatalf("%s: Without(%v, %v) = %v, %v; want %v", name, l, last, got, e, want)
			}
			l = got
		}
	}
}

// A cut of all elements that can be has them by their new names.
func TestWithoutAheadOfManyGone(t *testing.T) {
	l := row(write(1, 1, begin, "a"))
	var was, want []api.Elem
	for n := 2; len(was) < api.MaxElems-1; n++ {
		s := strings.Repeat("é", min(api.MaxRunes, api.MaxElems-1-len(was)))
		l = append(l, write(1, n, begin, s))
		for i := range []rune(s) {
			was, want = append(was, el(1, n, i)), append(want, el(1, n-1, i))
		}
	}
	got, e := Without(plus(l, cut(2, 1, was...)), 1, 1)
	if len(got) != len(l) || e != api.OK || !slices.Equal(got[len(got)-1].Gone, want) || tree.Check(got) != api.OK {
		t.Errorf("%v, %v; want Gone %v", got, e, want)
	}
}

// P8.2

func TestTraceOfRows(t *testing.T) {
	abc := write(1, 1, begin, "abc")
	a, b, c, x, y := el(1, 1, 0), el(1, 1, 1), el(1, 1, 2), el(2, 1, 0), el(2, 1, 1)
	instead := write(2, 1, a, "xy", b, c)
	of := func(l []api.Op, more ...api.Op) []api.Op { return plus(l, more...) }
	l := row(abc, instead)
	for _, k := range []struct {
		name        string
		l           []api.Op
		site, seq   int
		wrote, gone []api.Elem
	}{
		{"a text alone", row(abc), 1, 1, elems(a, b, c), nil},
		{"what it wrote is gone in part", l, 1, 1, elems(a), nil},
		{"it writes and takes away", l, 2, 1, elems(x, y), elems(b, c)},
		{"a cut", row(abc, cut(2, 1, b)), 2, 1, nil, elems(b)},
		{"a cut of what its own site wrote", row(abc, cut(1, 2, b, c)), 1, 2, nil, elems(b, c)},
		{"all that it wrote is gone", row(abc, cut(2, 1, a, b, c)), 1, 1, nil, nil},
		{"others write between what it wrote", of(row(abc), write(3, 1, a, "v"), write(1, 2, b, "w")), 1, 1, elems(a, b, c), nil},
		{"another one takes some of it away, too", of(l, cut(3, 1, a, c)), 2, 1, elems(x, y), elems(b)},
		{"the other one takes one away alone", of(l, cut(3, 1, a, c)), 3, 1, nil, elems(a)},
		{"another one takes all of it away, too", of(l, cut(3, 1, b, c)), 2, 1, elems(x, y), nil},
		{"another one that is not effective", of(l, cut(3, 1, a, c), toggle(4, 1, 3, 1, 0)), 2, 1, elems(x, y), elems(b, c)},
		{"another one that is effective again", of(l, cut(3, 1, a, c), toggle(4, 1, 3, 1, 0), toggle(4, 2, 3, 1, 1)), 2, 1, elems(x, y), elems(b)},
		{"it is not effective", of(l, toggle(1, 2, 2, 1, 0)), 2, 1, nil, nil},
		{"it is effective again", of(l, toggle(1, 2, 2, 1, 0), toggle(3, 1, 2, 1, 1)), 2, 1, elems(x, y), elems(b, c)},
		{"a toggle that does not count", of(l, toggle(1, 2, 2, 1, 1)), 2, 1, elems(x, y), elems(b, c)},
		{"what it took away is of one that is not effective", of(l, toggle(3, 1, 1, 1, 0)), 2, 1, elems(x, y), nil},
		{"likewise in part", row(abc, write(3, 1, begin, "v"), cut(2, 1, b, el(3, 1, 0)), toggle(3, 2, 1, 1, 0)), 2, 1, nil, elems(el(3, 1, 0))},
		{"what it wrote is gone by one that is not effective", of(l, cut(3, 1, y), toggle(3, 2, 3, 1, 0)), 2, 1, elems(x, y), elems(b, c)},
		{"it writes behind what it takes away", row(abc, write(2, 1, b, "xy", a, b)), 2, 1, elems(x, y), elems(a, b)},
		{"in the text's order, not rising", row(abc, write(1, 2, begin, "uv"), write(2, 1, a, "xy"), cut(3, 1, a, c, el(1, 2, 1), x)), 3, 1, nil, elems(el(1, 2, 1), a, x, c)},
	} {
		w, g, e := Trace(k.l, k.site, k.seq)
		if !slices.Equal(w, k.wrote) || !slices.Equal(g, k.gone) || e != api.OK {
			t.Errorf("%s: %v, %v, %v; want %v, %v", k.name, w, g, e, k.wrote, k.gone)
		}
	}
}

func TestTraceIsByTheWords(t *testing.T) {
	for _, l := range manyRows() {
		seen := visibleOf(t, l)
		for _, x := range namesOf(l) {
			wrote := slices.DeleteFunc(slices.Clone(seen), func(e api.Elem) bool { return !isOf(e, opOf(l, x)) })
			gone := goneByWords(l, x)
			if w, g, e := Trace(l, x.Site, x.Seq); !slices.Equal(w, wrote) || !slices.Equal(g, gone) || e != api.OK {
				t.Fatalf("Trace(%v, %v) = %v, %v, %v; want %v, %v", l, x, w, g, e, wrote, gone)
			}
		}
	}
}

// Of an effective edit one toggle more takes just what it wrote, and brings just what goes by it alone.
func TestTraceIsWhatAToggleChanges(t *testing.T) {
	for _, l := range manyRows() {
		if len(l) == api.MaxOps {
			l = l[:api.MaxOps-1]
		}
		was := visibleOf(t, l)
		for _, x := range namesOf(l) {
			if !isEffective(l, x) {
				continue
			}
			wrote, gone, e := Trace(l, x.Site, x.Seq)
			n, _ := doc.Count(l, x.Site, x.Seq)
			now := visibleOf(t, plus(l, toggle(5, 1+ofSite(l, 5), x.Site, x.Seq, n)))
			if !slices.Equal(wrote, left(was, now)) || !slices.Equal(gone, left(now, was)) || e != api.OK {
				t.Fatalf("Trace(%v, %v) = %v, %v, %v; a toggle takes %v, brings %v", l, x, wrote, gone, e, left(was, now), left(now, was))
			}
		}
	}
}

// left are those of all that are not among others.
func left(all, others []api.Elem) []api.Elem {
	return slices.DeleteFunc(slices.Clone(all), func(e api.Elem) bool { return slices.Contains(others, e) })
}

func TestTraceOfFullRows(t *testing.T) {
	l := runes(api.MaxElems)
	all, _ := tree.Order(l)
	l = append(l, cut(2, 1, sorted(slices.Clone(all))...))
	if w, g, e := Trace(l, 2, 1); len(w) != 0 || !slices.Equal(g, all) || e != api.OK {
		t.Errorf("MaxElems go: %v, %v, %v; want %v", w, g, e, all)
	}
	l = append(l, cut(3, 1, all[7]))
	if w, g, e := Trace(l, 2, 1); len(w) != 0 || !slices.Equal(g, left(all, all[7:8])) || e != api.OK {
		t.Errorf("all but one go: %v, %v, %v", w, g, e)
	}
}

// P8.3

func TestWithoutLeavesTheText(t *testing.T) {
	found := 0
	for _, l := range manyRows() {
		was := textOf(t, l)
		for _, x := range namesOf(l) {
			if isEffective(l, x) || len(leansByWords(l, x)) > 0 {
				continue
			}
			found++
			got, e := Without(l, x.Site, x.Seq)
			if now := textOf(t, got); now != was || e != api.OK {
				t.Fatalf("Without(%v, %v): %v: the text is %q; it was %q", l, x, e, now, was)
			}
		}
	}
	if found < 500 {
		t.Errorf("only %d were asked", found)
	}
}

// All edits that are not effective, and on which none leans, go one after the other: what is left has the text.
func TestWithoutAllThatCanGo(t *testing.T) {
	for seed := range 60 {
		l := madeUp(seed)
		was := textOf(t, l)
		canGo := func(x api.Elem) bool { return !isEffective(l, x) && len(leansByWords(l, x)) == 0 }
		for {
			edits := namesOf(l)
			n := slices.IndexFunc(edits, canGo)
			if n < 0 {
				break
			}
			var e api.Errno
			l, e = Without(l, edits[n].Site, edits[n].Seq)
			if now := textOf(t, l); now != was || e != api.OK {
				t.Fatalf("seed %d: %v: the text is %q; it was %q", seed, e, now, was)
			}
		}
	}
}

// Errors

func TestOfWhatIsNoEdit(t *testing.T) {
	numbers := []int{math.MinInt, -1, 0, 1, 2, 3, 4, 5, 8, 9, api.MaxNum, math.MaxInt}
	for name, l := range map[string][]api.Op{"some": some(), "no ops": nil, "an empty list": {}, "a chain": chain()} {
		edits := namesOf(l)
		for _, site := range numbers {
			for _, seq := range numbers {
				if !slices.Contains(edits, el(site, seq, 0)) {
					checkErr(t, name, l, site, seq, api.ErrNone)
				}
			}
		}
	}
	// A toggle's name is no edit's.
	checkErr(t, "a toggle", some(), 1, 2, api.ErrNone)
	checkErr(t, "a toggle", some(), 2, 3, api.ErrNone)
	checkErr(t, "a toggle on whose edit others lean", row(write(1, 1, begin, "a"), toggle(2, 1, 1, 1, 0), cut(1, 2, el(1, 1, 0))), 2, 1, api.ErrNone)
}

func TestRowsThatMayNotBe(t *testing.T) {
	for name, l := range badRows() {
		for _, x := range []api.Elem{el(1, 1, 0), el(2, 1, 0), el(1, 2, 0), el(7, 7, 0), begin, el(math.MinInt, math.MaxInt, 0)} {
			checkErr(t, name, l, x.Site, x.Seq, api.ErrForm)
		}
	}
	// Also of an edit on which others lean.
	checkErr(t, "one leans", row(write(1, 1, begin, "ab"), cut(2, 1, el(1, 1, 0)), api.Op{}), 1, 1, api.ErrForm)
}

// R1, R2

func TestRowIsNotChanged(t *testing.T) {
	for k, base := range manyRows() {
		if k%13 != 0 {
			continue
		}
		l := append(make([]api.Op, 0, len(base)+3), copied(base)...)
		was := append(copied(l), api.Op{}, api.Op{}, api.Op{})
		for _, x := range namesOf(l) {
			for range 2 {
				Leans(l, x.Site, x.Seq)
				Without(l, x.Site, x.Seq)
				Trace(l, x.Site, x.Seq)
			}
		}
		if !reflect.DeepEqual(l[:cap(l)], was) {
			t.Fatalf("the row, or the room behind it, was %v, is %v", was, l[:cap(l)])
		}
	}
}

// spoil writes into each element of l, and into the spare room.
func spoil(l []api.Elem) {
	all := l[:cap(l)]
	for i := range all {
		all[i] = el(8, 8, 8)
	}
}

func TestListsAreNotShared(t *testing.T) {
	l := row(write(1, 1, begin, "abc"), write(2, 1, el(1, 1, 0), "xy", el(1, 1, 1), el(1, 1, 2)), cut(3, 1, el(2, 1, 0)))
	was := copied(l)
	leans, wrote, gone := elems(el(2, 1, 0), el(3, 1, 0)), elems(el(2, 1, 1)), elems(el(1, 1, 1), el(1, 1, 2))
	first, _ := Leans(l, 1, 1)
	second, _ := Leans(l, 1, 1)
	spoil(first)
	third, _ := Leans(l, 1, 1)
	if !slices.Equal(second, leans) || !slices.Equal(third, leans) {
		t.Errorf("Leans: %v, %v; want %v", second, third, leans)
	}
	w, g, _ := Trace(l, 2, 1)
	spoil(w)
	if !slices.Equal(g, gone) {
		t.Errorf("Trace: behind what was written into the first list the second one is %v; want %v", g, gone)
	}
	w, g, _ = Trace(l, 2, 1)
	spoil(g)
	if !slices.Equal(w, wrote) {
		t.Errorf("Trace: behind what was written into the second list the first one is %v; want %v", w, wrote)
	}
	if w, g, e := Trace(l, 2, 1); !slices.Equal(w, wrote) || !slices.Equal(g, gone) || e != api.OK {
		t.Errorf("Trace: %v, %v, %v; want %v, %v", w, g, e, wrote, gone)
	}
	if !reflect.DeepEqual(l, was) {
		t.Errorf("the row was %v, is %v", was, l)
	}
}

// Rows that were told share no Gone: not with the row that was handed in, nor with each other, nor two ops' of one.
func TestRowsAreNotShared(t *testing.T) {
	l := plus(some(), write(8, 1, begin, "r"))
	was := copied(l)
	want := some()
	for n := range want {
		first, e := Without(l, 8, 1)
		second, f := Without(l, 8, 1)
		if !same(first, want) || !same(second, want) || e != api.OK || f != api.OK {
			t.Fatalf("%v, %v; %v, %v; want %v", first, e, second, f, want)
		}
		spoil(first[n].Gone)
		whole := first[:cap(first)]
		first[n].Gone = slices.Clone(want[n].Gone)
		if !same(first, want) {
			t.Errorf("with the Gone of op %d others of the row changed: %v; want %v", n, first, want)
		}
		for i := range whole {
			whole[i] = api.Op{Site: 8}
		}
		if !same(second, want) || !reflect.DeepEqual(l, was) {
			t.Errorf("%v; want %v; the row is %v; want %v", second, want, l, was)
		}
	}
}
