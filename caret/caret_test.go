package caret

import (
	"math"
	"reflect"
	"slices"
	"strings"
	"testing"

	"lectionary/api"
	"lectionary/doc"
	"lectionary/edit"
	"lectionary/op"
	"lectionary/tree"
)

var begin = api.Elem{}

func el(site, seq, i int) api.Elem { return api.Elem{Site: site, Seq: seq, I: i} }

func write(site, seq int, after api.Elem, s string, gone ...api.Elem) api.Op {
	return api.Op{Site: site, Seq: seq, Kind: api.KindEdit, After: after, Text: s, Gone: gone}
}

func cut(site, seq int, gone ...api.Elem) api.Op { return write(site, seq, begin, "", gone...) }

func toggle(site, seq, of, num, gen int) api.Op {
	return api.Op{Site: site, Seq: seq, Kind: api.KindToggle, Of: of, Num: num, Gen: gen}
}

func row(l ...api.Op) []api.Op { return l }

func plus(l []api.Op, more ...api.Op) []api.Op { return slices.Concat(l, more) }

// some is a row of the elements u x v a b y z c d w: of these x, a, z and c are visible. u, b and d are gone; v is of an edit that is not effective; y is gone twice, once by an edit that is not effective; w is of an edit that is not effective, and gone; c would be gone by an edit that is not effective, z is of an edit that is effective again.
func some() []api.Op {
	return row(write(1, 1, begin, "abcd"), write(2, 1, begin, "v"), write(3, 1, begin, "ux"), write(3, 2, el(1, 1, 1), "yz"), write(1, 2, el(1, 1, 3), "w"),
		cut(2, 2, el(1, 1, 1), el(1, 1, 3), el(1, 2, 0), el(3, 1, 0), el(3, 2, 0)), cut(2, 3, el(1, 1, 2), el(3, 2, 0)),
		toggle(1, 3, 2, 1, 0), toggle(1, 4, 1, 2, 0), toggle(1, 5, 2, 3, 0), toggle(2, 4, 3, 2, 0), toggle(1, 6, 3, 2, 1), toggle(3, 3, 1, 1, 5))
}

// writes are n ops of one site that each write s at the begin.
func writes(site, n int, s string) []api.Op {
	var l []api.Op
	for i := range n {
		l = append(l, write(site, i+1, begin, s))
	}
	return l
}

// runes is a row of site 1 whose texts have n runes, in as few ops as can be: the last op's stand first.
func runes(n int) []api.Op {
	l := writes(1, n/api.MaxRunes, strings.Repeat("ß", api.MaxRunes))
	if n%api.MaxRunes == 0 {
		return l
	}
	return append(l, write(1, len(l)+1, begin, strings.Repeat("é", n%api.MaxRunes)))
}

// toggles are n toggles of the edit 1, 1 by one site, with generations from 0 on.
func toggles(site, n int) []api.Op {
	var l []api.Op
	for i := range n {
		l = append(l, toggle(site, i+1, 1, 1, i))
	}
	return l
}

// badRows are rows that may not be.
func badRows() map[string][]api.Op {
	a := write(1, 1, begin, "ab")
	return map[string][]api.Op{
		"an op that may not be":    row(a, api.Op{}),
		"an op of no kind":         row(a, api.Op{Site: 1, Seq: 2, Kind: 3}),
		"a first number 2":         row(a, write(2, 2, begin, "a")),
		"a name twice":             row(a, a),
		"a site that may not be":   row(a, write(api.MaxSites+1, 1, begin, "a")),
		"After of no op":           row(a, write(2, 1, el(3, 1, 0), "x")),
		"After beyond the runes":   row(a, write(2, 1, el(1, 1, 2), "x")),
		"Gone not rising":          row(a, cut(2, 1, el(1, 1, 1), el(1, 1, 0))),
		"a rune that may not be":   row(write(1, 1, begin, "a\tb")),
		"a toggle of no op":        row(toggle(1, 1, 1, 2, 0)),
		"a toggle of a toggle":     row(a, toggle(2, 1, 1, 1, 0), toggle(3, 1, 2, 1, 0)),
		"more ops than MaxOps":     plus(row(a), toggles(2, api.MaxOps)...),
		"more runes than MaxElems": runes(api.MaxElems + 1),
		"very many ops":            writes(1, 100000, "a"),
	}
}

// moreOps are ops of a few sites, with numbers left out, that touch each other and what stands in "ab" of 1, 1.
func moreOps() []api.Op {
	a, b, x := el(1, 1, 0), el(1, 1, 1), el(2, 1, 0)
	return row(write(2, 0, begin, "xv"), write(2, 0, a, "yé", b), write(3, 0, x, "z", a, x), cut(3, 0, a), cut(1, 0, a, b), cut(1, 0, x),
		toggle(1, 0, 1, 1, 0), toggle(2, 0, 1, 1, 1), toggle(1, 0, 2, 1, 0), toggle(3, 0, 2, 1, 0), toggle(2, 0, 3, 1, 0))
}

// smallRows are all rows that may be of "ab" and up to four ops more of moreOps.
func smallRows() [][]api.Op {
	rows := [][]api.Op{nil, row(write(1, 1, begin, "ab"))}
	for from, n := 1, 0; n < 4; n++ {
		last := rows[from:]
		from = len(rows)
		for _, l := range last {
			for _, o := range moreOps() {
				o.Seq = 1 + ofSite(l, o.Site)
				if m := plus(l, o); tree.Check(m) == api.OK {
					rows = append(rows, m)
				}
			}
		}
	}
	return rows
}

// ofSite tells how many ops of a site a row has.
func ofSite(l []api.Op, site int) int {
	n := 0
	for _, o := range l {
		if o.Site == site {
			n++
		}
	}
	return n
}

// dice are numbers that look like any, and are the same each time.
type dice uint64

func (d *dice) below(n int) int {
	*d = *d*6364136223846793005 + 1442695040888963407
	return int(*d>>33) % n
}

// madeUp is a row that may be of size ops of all kinds.
func madeUp(seed, size int) []api.Op {
	d := dice(seed+1) * 2654435761 // seeds that are near each other begin far apart
	l := row(write(1, 1, begin, strings.Repeat("é", 1+d.below(api.MaxRunes))))
	for len(l) < size {
		site := 1 + d.below(api.MaxSites)
		o := write(site, 1+ofSite(l, site), begin, "")
		all := inRow(l)
		switch kind := d.below(6); {
		case kind == 0 || len(all)+api.MaxRunes > api.MaxElems:
			of := l[d.below(len(l))]
			for of.Kind != api.KindEdit {
				of = l[d.below(len(l))]
			}
			n, _ := doc.Count(l, of.Site, of.Seq)
			o = toggle(site, o.Seq, of.Site, of.Seq, n+d.below(5)/4)
		case kind == 1:
			o.Gone = d.picked(all, 1+d.below(12))
		default:
			o.Text = strings.Repeat("ß", 1+d.below(4+seed%2*8))
			if d.below(3) > 0 {
				o.After = all[d.below(len(all))]
			}
			if d.below(5) == 0 {
				o.Gone = d.picked(all, 1+d.below(3))
			}
		}
		l = append(l, o)
	}
	return l
}

// picked are at most n of all, rising.
func (d *dice) picked(all []api.Elem, n int) []api.Elem {
	var l []api.Elem
	for range n {
		l = append(l, all[d.below(len(all))])
	}
	slices.SortFunc(l, func(a, b api.Elem) int {
		if op.Less(a, b) {
			return -1
		}
		return 1
	})
	return slices.Compact(l)
}

// manyRows are small ones and made-up ones that may be.
func manyRows(t *testing.T) [][]api.Op {
	t.Helper()
	rows := append(smallRows(), some())
	for seed := range 12 {
		l := madeUp(seed, api.MaxOps-seed%2)
		if e := tree.Check(l); e != api.OK {
			t.Fatalf("row %d may not be: %v", seed, l)
		}
		rows = append(rows, l)
	}
	return rows
}

// inRow tells all elements of a row that may be, in order: what an op writes comes right behind its After.
func inRow(l []api.Op) []api.Elem {
	var all []api.Elem
	for _, o := range l {
		var own []api.Elem
		for i := range []rune(o.Text) {
			own = append(own, el(o.Site, o.Seq, i))
		}
		all = slices.Insert(all, slices.Index(all, o.After)+1, own...)
	}
	return all
}

// hidden are by doc's words the elements of a row that may be that are not visible.
func hidden(l []api.Op) map[api.Elem]bool {
	away := map[api.Elem]bool{}
	for _, o := range l {
		is, _ := doc.Effective(l, o.Site, o.Seq)
		if is {
			for _, e := range o.Gone {
				away[e] = true
			}
			continue
		}
		for i := range []rune(o.Text) {
			away[el(o.Site, o.Seq, i)] = true
		}
	}
	return away
}

// spot is where an element stands: so many visible ones up to it, and the last one of these.
type spot struct {
	elem  api.Elem
	place int
	near  api.Elem
}

// spots tells by the words where the begin and each element of a row that may be stand.
func spots(l []api.Op) []spot {
	all := []spot{{}}
	away := hidden(l)
	var last spot
	for _, e := range inRow(l) {
		if !away[e] {
			last = spot{place: last.place + 1, near: e}
		}
		all = append(all, spot{e, last.place, last.near})
	}
	return all
}

// numbers are numbers around those of a short text, and far ones.
func numbers() []int {
	return []int{-2, -1, 0, 1, 2, 3, 4, 5, 6, 40, 200, 201, api.MaxNum, math.MinInt, math.MinInt + 4, math.MaxInt32, math.MinInt32, math.MaxInt}
}

// wrongElems are elements that are not written in some.
func wrongElems() []api.Elem {
	l := []api.Elem{
		el(1, 1, 4), el(2, 1, 1), el(3, 2, 2), el(1, 2, 1), // behind the last rune
		el(2, 2, 0), el(2, 3, 0), // of an op without a text
		el(1, 3, 0), el(3, 3, 0), // of a toggle
		el(1, 7, 0), el(3, 4, 0), el(4, 1, 0), el(8, 1, 0), // of no op
		el(0, 0, 1), el(0, 1, 0), el(1, 0, 0), el(0, 1, 1), el(1, 1, api.MaxRunes), el(9, 1, 0), el(0, 0, -1),
	}
	for _, n := range []int{math.MinInt, -1, api.MaxNum, api.MaxNum + 1, math.MaxInt} {
		l = append(l, el(n, 1, 0), el(1, n, 0), el(1, 1, n), el(n, n, n), el(0, 0, n))
	}
	return l
}

func wantSet(t *testing.T, l []api.Op, at int, want api.Elem, err api.Errno) {
	t.Helper()
	if x, e := Set(l, at); x != want || e != err {
		t.Fatalf("Set(%v, %d) = %v, %v; want %v, %v", l, at, x, e, want, err)
	}
}

func wantPlace(t *testing.T, l []api.Op, x api.Elem, want int, err api.Errno) {
	t.Helper()
	if n, e := Place(l, x); n != want || e != err {
		t.Fatalf("Place(%v, %v) = %d, %v; want %d, %v", l, x, n, e, want, err)
	}
}

func wantNear(t *testing.T, l []api.Op, x api.Elem, want api.Elem, err api.Errno) {
	t.Helper()
	if y, e := Near(l, x); y != want || e != err {
		t.Fatalf("Near(%v, %v) = %v, %v; want %v, %v", l, x, y, e, want, err)
	}
}

func textOf(t *testing.T, l []api.Op) string {
	t.Helper()
	s, e := doc.Text(l)
	if e != api.OK {
		t.Fatalf("no text of %v: %v", l, e)
	}
	return s
}

// P11.1

func TestSetTellsTheElementAhead(t *testing.T) {
	if s := textOf(t, some()); s != "xazc" {
		t.Fatalf("the row's text is %q", s)
	}
	for at, want := range []api.Elem{begin, el(3, 1, 1), el(1, 1, 0), el(3, 2, 1), el(1, 1, 2)} {
		wantSet(t, some(), at, want, api.OK)
	}
}

func TestSetBeyondTheText(t *testing.T) {
	for _, at := range numbers() {
		if at < 0 || at > 4 {
			wantSet(t, some(), at, begin, api.ErrLimit)
		}
	}
}

func TestPlaceTellsHowManyAreVisible(t *testing.T) {
	u, x, v, a, b, y, z, c, d, w := el(3, 1, 0), el(3, 1, 1), el(2, 1, 0), el(1, 1, 0), el(1, 1, 1), el(3, 2, 0), el(3, 2, 1), el(1, 1, 2), el(1, 1, 3), el(1, 2, 0)
	if all, e := tree.Order(some()); !slices.Equal(all, []api.Elem{u, x, v, a, b, y, z, c, d, w}) || e != api.OK {
		t.Fatalf("the row's elements are %v, %v", all, e)
	}
	for _, k := range []spot{
		{elem: begin, place: 0}, {elem: u, place: 0}, {elem: x, place: 1}, {elem: v, place: 1}, {elem: a, place: 2}, {elem: b, place: 2},
		{elem: y, place: 2}, {elem: z, place: 3}, {elem: c, place: 4}, {elem: d, place: 4}, {elem: w, place: 4},
	} {
		wantPlace(t, some(), k.elem, k.place, api.OK)
	}
}

func TestPlaceOfWhatIsNotWritten(t *testing.T) {
	for _, x := range wrongElems() {
		wantPlace(t, some(), x, 0, api.ErrNone)
	}
}

func TestSetAndPlaceAreByTheWords(t *testing.T) {
	for _, l := range manyRows(t) {
		last := begin
		n := 0
		for _, k := range spots(l) {
			wantPlace(t, l, k.elem, k.place, api.OK)
			if k.place == n+1 {
				n, last = k.place, k.near
			}
			wantSet(t, l, k.place, last, api.OK)
		}
		wantSet(t, l, n+1, begin, api.ErrLimit)
		wantSet(t, l, -1, begin, api.ErrLimit)
	}
}

// What is written at a place comes behind the element that Set tells.
func TestSetIsWhereIsWritten(t *testing.T) {
	rows := append(smallRows(), some())
	for seed := range 10 {
		rows = append(rows, madeUp(seed, 20))
	}
	for _, l := range rows {
		for at := range len([]rune(textOf(t, l))) + 1 {
			o, e := edit.Insert(l, 8, at, "p")
			if e != api.OK {
				t.Fatalf("Insert(%v, 8, %d): %v", l, at, e)
			}
			wantSet(t, l, at, o.After, api.OK)
		}
	}
}

// What is written behind an element, visible or not, stands at its Place.
func TestPlaceIsWhereStandsWhatIsWritten(t *testing.T) {
	rows := append(smallRows(), some())
	for seed := range 10 {
		rows = append(rows, madeUp(seed, 20))
	}
	for _, l := range rows {
		for _, x := range append(inRow(l), begin) {
			behind := textOf(t, plus(l, write(7, 1+ofSite(l, 7), x, "!")))
			wantPlace(t, l, x, slices.Index([]rune(behind), '!'), api.OK)
		}
	}
}

// P11.2

func TestNearTellsTheVisibleOneUpToIt(t *testing.T) {
	u, x, v, a, b, y, z, c, d, w := el(3, 1, 0), el(3, 1, 1), el(2, 1, 0), el(1, 1, 0), el(1, 1, 1), el(3, 2, 0), el(3, 2, 1), el(1, 1, 2), el(1, 1, 3), el(1, 2, 0)
	for _, k := range []spot{
		{elem: begin, near: begin}, {elem: u, near: begin}, {elem: x, near: x}, {elem: v, near: x}, {elem: a, near: a}, {elem: b, near: a},
		{elem: y, near: a}, {elem: z, near: z}, {elem: c, near: c}, {elem: d, near: c}, {elem: w, near: c},
	} {
		wantNear(t, some(), k.elem, k.near, api.OK)
	}
}

func TestNearOfWhatIsNotWritten(t *testing.T) {
	for _, x := range wrongElems() {
		wantNear(t, some(), x, begin, api.ErrNone)
	}
}

func TestNearIsByTheWords(t *testing.T) {
	for _, l := range manyRows(t) {
		for _, k := range spots(l) {
			wantNear(t, l, k.elem, k.near, api.OK)
		}
	}
}

// An element that goes is near to the one ahead, one that comes back to itself.
func TestNearOfWhatGoesAndComesBack(t *testing.T) {
	l := row(write(1, 1, begin, "abc"))
	a, b, c := el(1, 1, 0), el(1, 1, 1), el(1, 1, 2)
	wantNear(t, l, c, c, api.OK)
	l = plus(l, cut(2, 1, c))
	wantNear(t, l, c, b, api.OK)
	l = plus(l, cut(3, 1, b))
	wantNear(t, l, c, a, api.OK)
	l = plus(l, cut(3, 2, a))
	wantNear(t, l, c, begin, api.OK)
	l = plus(l, toggle(1, 2, 3, 1, 0))
	wantNear(t, l, c, b, api.OK)
	l = plus(l, toggle(1, 3, 2, 1, 0))
	wantNear(t, l, c, c, api.OK)
	l = plus(l, toggle(1, 4, 2, 1, 0))
	wantNear(t, l, c, c, api.OK)
	l = plus(l, toggle(1, 5, 1, 1, 0))
	wantNear(t, l, c, begin, api.OK)
}

// P11.1, P11.2: the edges

func TestRowsWithoutText(t *testing.T) {
	ab := write(1, 1, begin, "ab")
	for name, l := range map[string][]api.Op{"no ops": nil, "an empty list": {}, "all gone": row(ab, cut(2, 1, el(1, 1, 0), el(1, 1, 1))), "not effective": row(ab, toggle(2, 1, 1, 1, 0))} {
		for _, at := range numbers() {
			if x, e := Set(l, at); x != begin || (e == api.OK) != (at == 0) || e != api.OK && e != api.ErrLimit {
				t.Errorf("%s: Set at %d: %v, %v", name, at, x, e)
			}
		}
		wantPlace(t, l, begin, 0, api.OK)
		wantNear(t, l, begin, begin, api.OK)
		want := api.OK
		if len(l) == 0 {
			want = api.ErrNone
		}
		for i := range 2 {
			wantPlace(t, l, el(1, 1, i), 0, want)
			wantNear(t, l, el(1, 1, i), begin, want)
		}
		wantPlace(t, l, el(1, 1, 2), 0, api.ErrNone)
		wantNear(t, l, el(1, 1, 2), begin, api.ErrNone)
	}
}

func TestFullRows(t *testing.T) {
	l := runes(api.MaxElems)
	all := inRow(l)
	for i, x := range all {
		wantSet(t, l, i+1, x, api.OK)
		wantPlace(t, l, x, i+1, api.OK)
		wantNear(t, l, x, x, api.OK)
	}
	wantSet(t, l, 0, begin, api.OK)
	wantSet(t, l, api.MaxElems+1, begin, api.ErrLimit)
	var own []api.Elem // of the first op, which stand last
	for i := range api.MaxRunes {
		own = append(own, el(1, 1, i))
	}
	m := plus(l, cut(8, 1, own...))
	left := api.MaxElems - api.MaxRunes
	for _, x := range own {
		wantPlace(t, m, x, left, api.OK)
		wantNear(t, m, x, all[left-1], api.OK)
	}
	wantSet(t, m, left, all[left-1], api.OK)
	wantSet(t, m, left+1, begin, api.ErrLimit)
	n := writes(1, api.MaxOps, "a")
	wantSet(t, n, api.MaxOps, el(1, 1, 0), api.OK)
	wantPlace(t, n, el(1, 1, 0), api.MaxOps, api.OK)
	wantNear(t, n, el(1, api.MaxOps, 0), el(1, api.MaxOps, 0), api.OK)
	for k := range api.MaxOps {
		seen := 1 - k%2
		o := plus(row(write(1, 1, begin, "a")), toggles(2, k)...)
		wantPlace(t, o, el(1, 1, 0), seen, api.OK)
		wantSet(t, o, seen+1, begin, api.ErrLimit)
	}
}

func TestRowsThatMayNotBe(t *testing.T) {
	elems := append(wrongElems(), begin, el(1, 1, 0), el(1, 1, 1))
	for name, l := range badRows() {
		for _, at := range numbers() {
			if x, e := Set(l, at); x != begin || e != api.ErrForm {
				t.Errorf("%s: Set at %d: %v, %v; want ErrForm alone", name, at, x, e)
			}
		}
		for _, x := range elems {
			n, e := Place(l, x)
			y, f := Near(l, x)
			if n != 0 || y != begin || e != api.ErrForm || f != api.ErrForm {
				t.Errorf("%s: Place of %v: %d, %v; Near: %v, %v; want ErrForm alone", name, x, n, e, y, f)
			}
		}
	}
}

// P11.3

func TestPlaceOfSetIsIt(t *testing.T) {
	for _, l := range manyRows(t) {
		for at := range len([]rune(textOf(t, l))) + 1 {
			x, e := Set(l, at)
			if n, f := Place(l, x); n != at || e != api.OK || f != api.OK {
				t.Fatalf("Place(%v, %v) = %d, %v; it was set, %v, at %d", l, x, n, f, e, at)
			}
			wantNear(t, l, x, x, api.OK)
		}
	}
}

func TestNearHasTheSamePlace(t *testing.T) {
	for _, l := range manyRows(t) {
		for _, x := range append(inRow(l), begin) {
			near, e := Near(l, x)
			n, f := Place(l, x)
			m, g := Place(l, near)
			if n != m || e != api.OK || f != api.OK || g != api.OK {
				t.Fatalf("of %v: %v is at %d, %v; %v, %v, which is near, at %d, %v", l, x, n, f, near, e, m, g)
			}
			wantSet(t, l, n, near, api.OK)
		}
	}
}

// A place stays where others write: what comes ahead moves it on, what comes at it or behind does not.
func TestPlacesStay(t *testing.T) {
	for _, l := range append(smallRows(), some()) {
		size := len([]rune(textOf(t, l)))
		for at := range size + 1 {
			x, _ := Set(l, at)
			for to := range size + 1 {
				o, e := edit.Insert(l, 7, to, "éß")
				if e != api.OK {
					t.Fatalf("Insert(%v, 7, %d): %v", l, to, e)
				}
				want := at
				if to < at {
					want = at + 2
				}
				wantPlace(t, plus(l, o), x, want, api.OK)
			}
		}
	}
}

// R1, R2

// copied is a row that has nothing in common with l.
func copied(l []api.Op) []api.Op {
	m := slices.Clone(l)
	for i := range m {
		m[i].Gone = slices.Clone(m[i].Gone)
	}
	return m
}

func TestRowIsNotChanged(t *testing.T) {
	for _, from := range [][]api.Op{nil, some(), runes(api.MaxElems), madeUp(1, api.MaxOps), plus(some(), api.Op{})} {
		l := append(copied(from), write(8, 8, begin, "room"), write(8, 9, begin, "room"))
		l = l[:len(l)-2]
		was := copied(l[:cap(l)])
		for _, at := range numbers() {
			x, e := Set(l, at)
			if y, f := Set(l, at); x != y || e != f {
				t.Errorf("Set at %d: %v, %v, the second time %v, %v", at, x, e, y, f)
			}
		}
		for _, x := range append(inRow(some()), begin, el(8, 8, 0)) {
			n, e := Place(l, x)
			near, f := Near(l, x)
			again, g := Place(l, x)
			nearAgain, h := Near(l, x)
			if n != again || e != g || near != nearAgain || f != h {
				t.Errorf("of %v: %d, %v, %v, %v, the second time %d, %v, %v, %v", x, n, e, near, f, again, g, nearAgain, h)
			}
		}
		if !reflect.DeepEqual(l[:cap(l)], was) {
			t.Errorf("the row, or the room behind it, was %v, is %v", was, l[:cap(l)])
		}
	}
}
