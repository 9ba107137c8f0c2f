package doc

import (
	"math"
	"reflect"
	"slices"
	"strings"
	"testing"

	"lectionary/api"
	"lectionary/tree"
)

var begin = api.Elem{}

func el(site, seq, i int) api.Elem { return api.Elem{Site: site, Seq: seq, I: i} }

func write(site, seq int, after api.Elem, s string, gone ...api.Elem) api.Op {
	return api.Op{Site: site, Seq: seq, Kind: api.KindEdit, After: after, Text: s, Gone: gone}
}

func cut(site, seq int, gone ...api.Elem) api.Op { return write(site, seq, begin, "", gone...) }

func toggle(site, seq, of, num, gen int) api.Op {
	return api.Op{Site: site, Seq: seq, Kind: api.KindToggle, Of: of, Num: num, Gen: gen}
}

func row(l ...api.Op) []api.Op { return l }

func plus(l []api.Op, more ...api.Op) []api.Op { return slices.Concat(l, more) }

// toggles are n toggles of the edit 1, 1 by one site, with generations from 0 on.
func toggles(site, n int) []api.Op {
	var l []api.Op
	for i := range n {
		l = append(l, toggle(site, i+1, 1, 1, i))
	}
	return l
}

// writes are n ops of one site that each write s at the begin.
func writes(site, n int, s string) []api.Op {
	var l []api.Op
	for i := range n {
		l = append(l, write(site, i+1, begin, s))
	}
	return l
}

// full is a row of site 1 whose texts have MaxElems runes.
func full() []api.Op {
	l := writes(1, api.MaxElems/api.MaxRunes, strings.Repeat("ß", api.MaxRunes))
	return append(l, write(1, len(l)+1, begin, strings.Repeat("é", api.MaxElems%api.MaxRunes)))
}

// textCase is a row that may be, its text, and the elements of that (nil where they are many).
type textCase struct {
	name    string
	l       []api.Op
	text    string
	visible []api.Elem
}

func texts() []textCase {
	abc := write(1, 1, begin, "aßc")
	a, b, c := el(1, 1, 0), el(1, 1, 1), el(1, 1, 2)
	cutB, cutBC := cut(2, 1, b), cut(3, 1, b, c)
	instead := write(2, 1, a, "xy", b)
	x, y := el(2, 1, 0), el(2, 1, 1)
	off := toggle(8, 1, 1, 1, 0)
	return []textCase{
		{"nothing", nil, "", nil},
		{"an empty list", []api.Op{}, "", nil},
		{"one op", row(abc), "aßc", []api.Elem{a, b, c}},
		{"runes of each length", row(write(1, 1, begin, "\n\u07ff\uffff\U0010ffff")), "\n\u07ff\uffff\U0010ffff", []api.Elem{a, b, c, el(1, 1, 3)}},
		{"in the tree's order, not the row's", row(abc, write(2, 1, begin, "x"), write(3, 1, a, "y")), "xayßc", []api.Elem{x, a, el(3, 1, 0), b, c}},
		{"one gone", row(abc, cutB), "ac", []api.Elem{a, c}},
		{"all gone", row(abc, cut(2, 1, a, b, c)), "", nil},
		{"gone by its own site", row(abc, cut(1, 2, a)), "ßc", []api.Elem{b, c}},
		{"gone twice", row(abc, cutB, cutBC), "a", []api.Elem{a}},
		{"gone twice, one of both not effective", row(abc, cutB, cutBC, toggle(3, 2, 2, 1, 0)), "a", []api.Elem{a}},
		{"gone twice, the other not effective", row(abc, cutB, cutBC, toggle(3, 2, 3, 1, 0)), "ac", []api.Elem{a, c}},
		{"gone twice, none effective", row(abc, cutB, cutBC, toggle(3, 2, 3, 1, 0), toggle(3, 3, 2, 1, 0)), "aßc", []api.Elem{a, b, c}},
		{"behind what is gone", row(abc, cut(2, 1, a, b, c), write(3, 1, b, "\n")), "\n", []api.Elem{el(3, 1, 0)}},
		{"behind what it takes away", row(abc, write(2, 1, b, "xy", b)), "axyc", []api.Elem{a, x, y, c}},
		{"instead of one", row(abc, instead), "axyc", []api.Elem{a, x, y, c}},
		{"instead of one, not effective: its text goes, and what was gone comes", row(abc, instead, toggle(1, 2, 2, 1, 0)), "aßc", []api.Elem{a, b, c}},
		{"what is written behind what is not effective stays", row(abc, instead, off), "xy", []api.Elem{x, y}},
		{"gone of an op that is not effective", row(abc, cutB, off), "", nil},
		{"gone of an op that is effective again", row(abc, cutB, off, toggle(8, 2, 1, 1, 1)), "ac", []api.Elem{a, c}},
		{"one toggle", row(abc, off), "", nil},
		{"two toggles", row(abc, off, toggle(1, 2, 1, 1, 1)), "aßc", []api.Elem{a, b, c}},
		{"three toggles", row(abc, off, toggle(1, 2, 1, 1, 1), toggle(8, 2, 1, 1, 2)), "", nil},
		{"two toggles of one generation", row(abc, off, toggle(1, 2, 1, 1, 0)), "", nil},
		{"a toggle of a generation ahead", row(abc, toggle(1, 2, 1, 1, 1)), "aßc", []api.Elem{a, b, c}},
		{"a toggle of a generation far ahead", row(abc, toggle(1, 2, 1, 1, api.MaxNum)), "aßc", []api.Elem{a, b, c}},
		{"a toggle ahead does not count later either", row(abc, toggle(1, 2, 1, 1, 1), off), "", nil},
		{"an op of the same number of another site is toggled", row(abc, write(2, 1, begin, "x"), toggle(1, 2, 2, 1, 0)), "aßc", []api.Elem{a, b, c}},
		{"another op of the same site is toggled", row(abc, write(1, 2, begin, "x"), toggle(1, 3, 1, 2, 0)), "aßc", []api.Elem{a, b, c}},
		{"a text that stands between two that are not effective", row(abc, write(2, 1, a, "x"), write(2, 2, x, "y"), off, toggle(8, 2, 2, 2, 0)), "x", []api.Elem{x}},
		{"as many runes as can be", full(), strings.Repeat("é", 8) + strings.Repeat("ß", 192), nil},
		{"as many toggles as can be", plus(row(abc), toggles(2, api.MaxOps-1)...), "", nil},
		{"one toggle less", plus(row(abc), toggles(2, api.MaxOps-2)...), "aßc", []api.Elem{a, b, c}},
	}
}

// badRows are rows that may not be.
func badRows() map[string][]api.Op {
	a := write(1, 1, begin, "ab")
	return map[string][]api.Op{
		"an op that may not be":           row(api.Op{}),
		"an op of no kind":                row(a, api.Op{Site: 1, Seq: 2, Kind: 3}),
		"a first number 2":                row(write(1, 2, begin, "a")),
		"a name twice":                    row(a, a),
		"a number left out":               row(a, cut(1, 3, el(1, 1, 0))),
		"After of no op":                  row(a, write(2, 1, el(3, 1, 0), "x")),
		"After beyond the runes":          row(a, write(2, 1, el(1, 1, 2), "x")),
		"Gone of an op behind":            row(cut(2, 1, el(1, 1, 0)), a),
		"Gone not rising":                 row(a, cut(2, 1, el(1, 1, 1), el(1, 1, 0))),
		"a toggle of no op":               row(a, toggle(2, 1, 1, 2, 0)),
		"a toggle of a toggle":            row(a, toggle(2, 1, 1, 1, 0), toggle(3, 1, 2, 1, 0)),
		"a toggle of a generation below":  row(a, toggle(2, 1, 1, 1, -1)),
		"a toggle of a generation beyond": row(a, toggle(2, 1, 1, 1, api.MaxNum+1)),
		"more ops than MaxOps":            writes(1, api.MaxOps+1, "a"),
		"more runes than MaxElems":        plus(full(), write(2, 1, begin, "a")),
		"very many ops":                   writes(1, 100000, "a"),
	}
}

// names are names, some of them of ops in the rows of these tests, some that cannot be.
func names() []api.Elem {
	var l []api.Elem
	numbers := []int{0, 1, 2, 3, 4, 5, 8, 9, -1, api.MaxNum, math.MinInt, math.MaxInt}
	for _, site := range numbers {
		for _, seq := range numbers {
			l = append(l, el(site, seq, 0))
		}
	}
	return l
}

// elems are elements, some of them of the rows of these tests, some that cannot be.
func elems() []api.Elem {
	var l []api.Elem
	for _, n := range names() {
		for _, i := range []int{0, 1, 2, 3, api.MaxRunes - 1, api.MaxRunes, -1, math.MinInt, math.MaxInt} {
			l = append(l, el(n.Site, n.Seq, i))
		}
	}
	return l
}

// smallRows are all rows that may be of "ab" and up to three ops more out of a few that touch each other.
func smallRows() [][]api.Op {
	a, b, x := el(1, 1, 0), el(1, 1, 1), el(2, 1, 0)
	more := []api.Op{
		write(2, 0, a, "x"), write(2, 0, a, "y", b), write(3, 0, x, "éz", a, x), cut(3, 0, a), cut(2, 0, a, b), cut(1, 0, x),
		toggle(1, 0, 1, 1, 0), toggle(2, 0, 1, 1, 0), toggle(2, 0, 1, 1, 1), toggle(3, 0, 1, 1, 2),
		toggle(1, 0, 2, 1, 0), toggle(3, 0, 2, 1, 0), toggle(3, 0, 2, 1, 1), toggle(2, 0, 3, 1, 0),
	}
	rows := [][]api.Op{nil, row(write(1, 1, begin, "ab"))}
	for from, n := 1, 0; n < 3; n++ {
		longer := rows[from:]
		from = len(rows)
		for _, l := range longer {
			for _, o := range more {
				o.Seq = 1 + ofSite(l, o.Site)
				if m := plus(l, o); tree.Check(m) == api.OK {
					rows = append(rows, m)
				}
			}
		}
	}
	return rows
}

// ofSite tells how many ops of a site a row has.
func ofSite(l []api.Op, site int) int {
	n := 0
	for _, o := range l {
		if o.Site == site {
			n++
		}
	}
	return n
}

// counted tells by the words whether the toggle at a place of a row counts.
func counted(l []api.Op, at int) bool {
	return l[at].Kind == api.KindToggle && l[at].Gen == countedOf(l[:at], l[at].Of, l[at].Num)
}

// countedOf tells by the words how many toggles of an edit count.
func countedOf(l []api.Op, of, num int) int {
	n := 0
	for i, o := range l {
		if o.Of == of && o.Num == num && counted(l, i) {
			n++
		}
	}
	return n
}

// visibleByWords tells by the words whether an element of a row is visible.
func visibleByWords(l []api.Op, e api.Elem) bool {
	for _, o := range l {
		if slices.Contains(o.Gone, e) && countedOf(l, o.Site, o.Seq)%2 == 0 {
			return false
		}
	}
	return countedOf(l, e.Site, e.Seq)%2 == 0
}

// runeByWords tells an element's rune, and whether a row writes it.
func runeByWords(l []api.Op, e api.Elem) (rune, bool) {
	for _, o := range l {
		if o.Site != e.Site || o.Seq != e.Seq {
			continue
		}
		i := 0
		for _, r := range o.Text {
			if i == e.I {
				return r, true
			}
			i++
		}
	}
	return 0, false
}

// told is all that the calls tell of a row: two rows of which the same is told are as good as one.
type told struct {
	visible   []api.Elem
	text      string
	counts    []int
	effective []bool
	runes     []rune
	errs      []api.Errno
}

// tell asks for all of it, of some names and elements.
func tell(l []api.Op, names, elems []api.Elem) told {
	var t told
	var e, f api.Errno
	t.visible, e = Visible(l)
	t.text, f = Text(l)
	t.errs = append(t.errs, e, f)
	for _, x := range names {
		n, e := Count(l, x.Site, x.Seq)
		is, f := Effective(l, x.Site, x.Seq)
		t.counts, t.effective, t.errs = append(t.counts, n), append(t.effective, is), append(t.errs, e, f)
	}
	for _, x := range elems {
		r, e := Rune(l, x)
		t.runes, t.errs = append(t.runes, r), append(t.errs, e)
	}
	return t
}

// P6.1

func TestTextsOfRows(t *testing.T) {
	for _, c := range texts() {
		s, e := Text(c.l)
		if s != c.text || e != api.OK {
			t.Errorf("%s: Text: %q, %v; want %q", c.name, s, e, c.text)
		}
		l, e := Visible(c.l)
		if c.visible != nil && !slices.Equal(l, c.visible) || len(l) != len([]rune(c.text)) || e != api.OK {
			t.Errorf("%s: Visible: %v, %v; want %v", c.name, l, e, c.visible)
		}
	}
}

func TestVisibleIsByTheWords(t *testing.T) {
	for _, l := range smallRows() {
		all, e := tree.Order(l)
		want := slices.DeleteFunc(all, func(x api.Elem) bool { return !visibleByWords(l, x) })
		got, f := Visible(l)
		if !slices.Equal(got, want) || e != api.OK || f != api.OK {
			t.Fatalf("Visible(%v) = %v, %v; want %v", l, got, f, want)
		}
		s, f := Text(l)
		var runes []rune
		for _, x := range want {
			r, _ := runeByWords(l, x)
			runes = append(runes, r)
		}
		if s != string(runes) || f != api.OK {
			t.Fatalf("Text(%v) = %q, %v; want %q", l, s, f, string(runes))
		}
	}
}

func TestCountsOfToggles(t *testing.T) {
	a := write(1, 1, begin, "ab")
	for _, c := range []struct {
		name string
		l    []api.Op
		want int
	}{
		{"none", row(a), 0},
		{"one", row(a, toggle(2, 1, 1, 1, 0)), 1},
		{"one by its own site", row(a, toggle(1, 2, 1, 1, 0)), 1},
		{"a generation ahead", row(a, toggle(2, 1, 1, 1, 1)), 0},
		{"MaxNum", row(a, toggle(2, 1, 1, 1, api.MaxNum)), 0},
		{"one generation twice, by one site", row(a, toggle(2, 1, 1, 1, 0), toggle(2, 2, 1, 1, 0)), 1},
		{"one generation thrice, by more", row(a, toggle(2, 1, 1, 1, 0), toggle(3, 1, 1, 1, 0), toggle(1, 2, 1, 1, 0)), 1},
		{"two", row(a, toggle(2, 1, 1, 1, 0), toggle(3, 1, 1, 1, 1)), 2},
		{"a generation left out", row(a, toggle(2, 1, 1, 1, 0), toggle(3, 1, 1, 1, 2)), 1},
		{"the other way round", row(a, toggle(2, 1, 1, 1, 1), toggle(3, 1, 1, 1, 0)), 1},
		{"ahead, then in order", row(a, toggle(2, 1, 1, 1, 1), toggle(3, 1, 1, 1, 0), toggle(2, 2, 1, 1, 1), toggle(3, 2, 1, 1, 2)), 3},
		{"of what has gone by", row(a, toggle(2, 1, 1, 1, 0), toggle(2, 2, 1, 1, 1), toggle(3, 1, 1, 1, 0)), 2},
		{"of other edits", row(a, write(2, 1, begin, "x"), write(1, 2, begin, "y"), toggle(2, 2, 2, 1, 0), toggle(2, 3, 1, 2, 0), toggle(2, 4, 2, 1, 1)), 0},
		{"among those of other edits", row(a, write(2, 1, begin, "x"), toggle(2, 2, 2, 1, 0), toggle(1, 2, 1, 1, 0), toggle(2, 3, 2, 1, 1), toggle(1, 3, 1, 1, 1)), 2},
		{"of an edit that is gone", row(a, cut(2, 1, el(1, 1, 0), el(1, 1, 1)), toggle(2, 2, 1, 1, 0)), 1},
		{"as many as can be", plus(row(a), toggles(3, api.MaxOps-1)...), api.MaxOps - 1},
	} {
		if n, e := Count(c.l, 1, 1); n != c.want || e != api.OK {
			t.Errorf("%s: Count: %d, %v; want %d", c.name, n, e, c.want)
		}
		if is, e := Effective(c.l, 1, 1); is != (c.want%2 == 0) || e != api.OK {
			t.Errorf("%s: Effective: %v, %v", c.name, is, e)
		}
	}
}

func TestCountOfCuts(t *testing.T) {
	l := row(write(1, 1, begin, "ab"), cut(2, 1, el(1, 1, 0)), toggle(1, 2, 2, 1, 0))
	for n := range 3 {
		got, e := Count(l, 2, 1)
		is, f := Effective(l, 2, 1)
		if got != n+1 || e != api.OK || is != (n == 1) || f != api.OK {
			t.Errorf("%d toggles: %d, %v, %v, %v", n+1, got, e, is, f)
		}
		l = append(l, toggle(1, n+3, 2, 1, n+1))
	}
}

// Count and Effective know edits, and nothing else: no toggle, no op that is not there.
func TestCountIsByTheWords(t *testing.T) {
	for k, l := range smallRows() {
		edits := map[api.Elem]bool{}
		for _, o := range l {
			edits[el(o.Site, o.Seq, 0)] = o.Kind == api.KindEdit
		}
		near := []api.Elem{el(1, 1, 0), el(1, 2, 0), el(2, 1, 0), el(2, 2, 0), el(3, 1, 0), el(3, 2, 0), el(4, 1, 0), begin}
		if k%97 == 0 {
			near = names()
		}
		for _, x := range near {
			want, err := countedOf(l, x.Site, x.Seq), api.OK
			if !edits[x] {
				want, err = 0, api.ErrNone
			}
			if n, e := Count(l, x.Site, x.Seq); n != want || e != err {
				t.Fatalf("Count(%v, %v) = %d, %v; want %d, %v", l, x, n, e, want, err)
			}
			if is, e := Effective(l, x.Site, x.Seq); is != (err == api.OK && want%2 == 0) || e != err {
				t.Fatalf("Effective(%v, %v) = %v, %v; want %v", l, x, is, e, err)
			}
		}
	}
}

// Rune knows all elements that are written, also those that are not visible, and no others.
func TestRuneOfEach(t *testing.T) {
	for _, c := range texts() {
		for _, x := range elems() {
			want, there := runeByWords(c.l, x)
			err := api.OK
			if !there {
				err = api.ErrNone
			}
			if r, e := Rune(c.l, x); r != want || e != err {
				t.Errorf("%s: Rune of %v: %q, %v; want %q, %v", c.name, x, r, e, want, err)
			}
		}
	}
}

func TestRuneOfWhatIsNotVisible(t *testing.T) {
	l := row(write(1, 1, begin, "aß\U0010ffff\n"), cut(2, 1, el(1, 1, 1)), write(2, 2, begin, "x"), toggle(1, 2, 2, 2, 0))
	for _, c := range []struct {
		e    api.Elem
		want rune
		err  api.Errno
	}{
		{el(1, 1, 0), 'a', api.OK}, {el(1, 1, 1), 'ß', api.OK}, {el(1, 1, 2), 0x10ffff, api.OK}, {el(1, 1, 3), '\n', api.OK}, {el(2, 2, 0), 'x', api.OK},
		{begin, 0, api.ErrNone}, {el(1, 1, 4), 0, api.ErrNone}, {el(1, 1, -1), 0, api.ErrNone}, {el(2, 1, 0), 0, api.ErrNone}, {el(1, 2, 0), 0, api.ErrNone}, {el(2, 2, 1), 0, api.ErrNone},
	} {
		if r, e := Rune(l, c.e); r != c.want || e != c.err {
			t.Errorf("Rune of %v: %q, %v; want %q, %v", c.e, r, e, c.want, c.err)
		}
	}
}

// ErrForm is told ahead of ErrNone.
func TestRowsThatMayNotBe(t *testing.T) {
	for name, l := range badRows() {
		near, far := names(), elems()
		if len(l) > 1000 {
			near, far = near[:2], far[:2]
		}
		got := tell(l, near, far)
		if len(got.visible) != 0 || got.text != "" {
			t.Errorf("%s: Visible and Text: %v, %q; want nothing", name, got.visible, got.text)
		}
		if slices.Max(got.counts) != 0 || slices.Min(got.counts) != 0 || slices.Contains(got.effective, true) || slices.Max(got.runes) != 0 {
			t.Errorf("%s: something is told beside the error", name)
		}
		if slices.ContainsFunc(got.errs, func(e api.Errno) bool { return e != api.ErrForm }) {
			t.Errorf("%s: errors %v; want ErrForm alone", name, got.errs)
		}
	}
}

// P6.2

func TestIdle(t *testing.T) {
	l := row(write(1, 1, begin, "ab"), write(2, 1, begin, "c"), cut(3, 1, el(1, 1, 0)),
		toggle(1, 2, 1, 1, 0), toggle(2, 2, 1, 1, 0), toggle(2, 3, 1, 1, 1), toggle(3, 2, 2, 1, 1), toggle(3, 3, 3, 1, 0))
	for _, c := range []struct {
		name string
		o    api.Op
		want bool
		err  api.Errno
	}{
		{"the next one", toggle(4, 1, 1, 1, 2), false, api.OK},
		{"the one ahead again", toggle(4, 1, 1, 1, 1), true, api.OK},
		{"the first one again", toggle(2, 4, 1, 1, 0), true, api.OK},
		{"one too far", toggle(4, 1, 1, 1, 3), true, api.OK},
		{"MaxNum", toggle(4, 1, 1, 1, api.MaxNum), true, api.OK},
		{"the first one of another edit", toggle(4, 1, 2, 1, 0), false, api.OK},
		{"one that came too early, again", toggle(4, 1, 2, 1, 1), true, api.OK},
		{"the next one of a cut", toggle(3, 4, 3, 1, 1), false, api.OK},
		{"the first one of a cut again", toggle(3, 4, 3, 1, 0), true, api.OK},
		{"a text", write(4, 1, begin, "x"), false, api.OK},
		{"a cut", cut(4, 1, el(2, 1, 0)), false, api.OK},
		{"a cut of what is gone", cut(4, 1, el(1, 1, 0)), false, api.OK},
		{"no op", api.Op{}, false, api.ErrForm},
		{"a number left out", toggle(4, 2, 1, 1, 0), false, api.ErrForm},
		{"a number that is there", toggle(2, 3, 1, 1, 0), false, api.ErrForm},
		{"a site that may not be", toggle(9, 1, 1, 1, 0), false, api.ErrForm},
		{"a generation below", toggle(4, 1, 1, 1, -1), false, api.ErrForm},
		{"a generation beyond", toggle(4, 1, 1, 1, api.MaxNum+1), false, api.ErrForm},
		{"a toggle of a toggle", toggle(4, 1, 1, 2, 0), false, api.ErrForm},
		{"a toggle of no op", toggle(4, 1, 5, 1, 0), false, api.ErrForm},
		{"a toggle of itself", toggle(4, 1, 4, 1, 0), false, api.ErrForm},
		{"behind an element that is none", write(4, 1, el(2, 1, 1), "x"), false, api.ErrForm},
		{"Gone of a toggle", cut(4, 1, el(1, 2, 0)), false, api.ErrForm},
		{"a toggle with a text", api.Op{Site: 4, Seq: 1, Kind: api.KindToggle, Of: 1, Num: 1, Gen: 5, Text: "a"}, false, api.ErrForm},
	} {
		if is, e := Idle(l, c.o); is != c.want || e != c.err {
			t.Errorf("%s: %v, %v; want %v, %v", c.name, is, e, c.want, c.err)
		}
	}
}

func TestIdleIsByTheWords(t *testing.T) {
	for _, l := range smallRows() {
		for _, o := range []api.Op{toggle(4, 1, 1, 1, 0), toggle(4, 1, 1, 1, 1), toggle(4, 1, 2, 1, 0), toggle(4, 1, 2, 1, 2), toggle(4, 1, 3, 1, 1), write(4, 1, begin, "a")} {
			behind := plus(l, o)
			err := tree.Check(behind)
			want := err == api.OK && o.Kind == api.KindToggle && !counted(behind, len(l))
			if is, e := Idle(l, o); is != want || e != err {
				t.Fatalf("Idle(%v, %v) = %v, %v; want %v, %v", l, o, is, e, want, err)
			}
		}
	}
}

func TestIdleWhereThereIsNoRoom(t *testing.T) {
	all := plus(row(write(1, 1, begin, "a")), toggles(2, api.MaxOps-1)...)
	for _, gen := range []int{0, api.MaxOps - 1} {
		if is, e := Idle(all, toggle(2, api.MaxOps, 1, 1, gen)); is || e != api.ErrForm {
			t.Errorf("one op more than MaxOps: %v, %v; want ErrForm alone", is, e)
		}
	}
	last := toggle(2, api.MaxOps-1, 1, 1, api.MaxOps-3)
	if is, e := Idle(all[:api.MaxOps-1], last); !is || e != api.OK {
		t.Errorf("the last one, a generation below: %v, %v", is, e)
	}
	if is, e := Idle(all[:api.MaxOps-1], all[api.MaxOps-1]); is || e != api.OK {
		t.Errorf("the last one: %v, %v", is, e)
	}
	if is, e := Idle(full(), toggle(2, 1, 1, 1, 1)); !is || e != api.OK {
		t.Errorf("behind MaxElems runes: %v, %v", is, e)
	}
	if is, e := Idle(full(), write(2, 1, begin, "a")); is || e != api.ErrForm {
		t.Errorf("one rune more than MaxElems: %v, %v; want ErrForm alone", is, e)
	}
}

func TestIdleOfRowsThatMayNotBe(t *testing.T) {
	for name, l := range badRows() {
		for _, o := range []api.Op{write(8, 1, begin, "x"), write(1, 1, begin, "x"), toggle(8, 1, 1, 1, 0), toggle(8, 1, 1, 1, 5), {}} {
			if is, e := Idle(l, o); is || e != api.ErrForm {
				t.Errorf("%s: Idle of %v: %v, %v; want ErrForm alone", name, o, is, e)
			}
		}
	}
	if is, e := Idle(nil, toggle(1, 1, 1, 1, 1)); is || e != api.ErrForm {
		t.Errorf("a toggle alone: %v, %v; want ErrForm alone", is, e)
	}
	if is, e := Idle(nil, write(1, 1, begin, "a")); is || e != api.OK {
		t.Errorf("the first op: %v, %v", is, e)
	}
}

// P6.3

// editsOf are the names of a row's edits.
func editsOf(l []api.Op) []api.Elem {
	var all []api.Elem
	for _, o := range l {
		if o.Kind == api.KindEdit {
			all = append(all, el(o.Site, o.Seq, 0))
		}
	}
	return all
}

func TestToggleThatDoesNotCountChangesNothing(t *testing.T) {
	for _, l := range smallRows() {
		edits := editsOf(l)
		all, _ := tree.Order(l)
		was := tell(l, edits, all)
		for _, x := range edits {
			n := countedOf(l, x.Site, x.Seq)
			for _, gen := range []int{0, n - 1, n + 1, api.MaxNum} {
				if gen == n || gen < 0 {
					continue
				}
				o := toggle(8, 1, x.Site, x.Seq, gen)
				if is, e := Idle(l, o); !is || e != api.OK {
					t.Fatalf("Idle(%v, %v) = %v, %v", l, o, is, e)
				}
				if got := tell(plus(l, o), edits, all); !reflect.DeepEqual(got, was) {
					t.Fatalf("%v with %v: %v; without: %v", l, o, got, was)
				}
			}
		}
	}
}

func TestTwoTogglesLeaveTheText(t *testing.T) {
	for _, l := range smallRows() {
		edits := editsOf(l)
		all, _ := tree.Order(l)
		was := tell(l, edits, all)
		for i, x := range edits {
			n := was.counts[i]
			one := plus(l, toggle(8, 1, x.Site, x.Seq, n))
			two := plus(one, toggle(7, 1, x.Site, x.Seq, n+1))
			if is, e := Effective(one, x.Site, x.Seq); is == was.effective[i] || e != api.OK {
				t.Fatalf("one toggle more of %v leaves it as it was: %v", x, one)
			}
			got := tell(two, edits, all)
			if got.counts[i] != n+2 {
				t.Fatalf("two toggles more of %v: %v: %d count; want %d", x, two, got.counts[i], n+2)
			}
			got.counts[i] = n
			if !reflect.DeepEqual(got, was) {
				t.Fatalf("two toggles more of %v: %v: %v; want %v", x, two, got, was)
			}
		}
	}
}

// R1, R2

func TestRowIsNotChanged(t *testing.T) {
	for _, c := range texts() {
		l := append(make([]api.Op, 0, len(c.l)+3), c.l...)
		was := make([]api.Op, len(l)+1)
		for i, o := range l {
			o.Gone = slices.Clone(o.Gone)
			was[i] = o
		}
		o := toggle(7, 1, 1, 1, 0)
		first, second := tell(l, names(), elems()), tell(l, names(), elems())
		is, e := Idle(l, o)
		again, f := Idle(l, o)
		if !reflect.DeepEqual(first, second) || is != again || e != f {
			t.Errorf("%s: the second time another answer", c.name)
		}
		if !reflect.DeepEqual(l[:len(l)+1], was) {
			t.Errorf("%s: the row, or the room behind it, is another one", c.name)
		}
	}
}

func TestAnswersAreNotShared(t *testing.T) {
	l := row(write(1, 1, begin, "abc"), write(2, 1, el(1, 1, 0), "d", el(1, 1, 1)), cut(3, 1, el(1, 1, 2)))
	want := []api.Elem{el(1, 1, 0), el(2, 1, 0)}
	first, _ := Visible(l)
	second, _ := Visible(l)
	for i := range first[:cap(first)] {
		first[:cap(first)][i] = el(8, 8, 8)
	}
	third, _ := Visible(l)
	if !slices.Equal(second, want) || !slices.Equal(third, want) {
		t.Errorf("%v, %v; want %v", second, third, want)
	}
	if !slices.Equal(l[1].Gone, []api.Elem{el(1, 1, 1)}) || !slices.Equal(l[2].Gone, []api.Elem{el(1, 1, 2)}) {
		t.Errorf("the ops' Gone: %v, %v", l[1].Gone, l[2].Gone)
	}
}
