package path

import (
	"math"
	"reflect"
	"slices"
	"strconv"
	"testing"

	"lectionary/api"
	"lectionary/doc"
	"lectionary/tree"
	"lectionary/xform"
)

var begin = api.Elem{}

func el(site, seq, i int) api.Elem { return api.Elem{Site: site, Seq: seq, I: i} }

func write(site, seq int, after api.Elem, s string, gone ...api.Elem) api.Op {
	return api.Op{Site: site, Seq: seq, Kind: api.KindEdit, After: after, Text: s, Gone: gone}
}

func cut(site, seq int, gone ...api.Elem) api.Op { return write(site, seq, begin, "", gone...) }

func toggle(site, seq, of, num, gen int) api.Op {
	return api.Op{Site: site, Seq: seq, Kind: api.KindToggle, Of: of, Num: num, Gen: gen}
}

func row(l ...api.Op) []api.Op { return l }

func plus(l []api.Op, more ...api.Op) []api.Op { return slices.Concat(l, more) }

func in(site, at int, r rune) api.Prim {
	return api.Prim{Kind: api.PrimIn, At: at, Rune: r, Site: site}
}

func out(site, at int, r rune) api.Prim {
	return api.Prim{Kind: api.PrimOut, At: at, Rune: r, Site: site}
}

func steps(l ...api.Prim) []api.Prim { return l }

// some is a row with elements that are gone once and twice, an edit that is not effective, and one that is again. Its text is "xayc".
func some() []api.Op {
	return row(write(1, 1, begin, "aßcd"), write(2, 1, begin, "x"), write(3, 1, el(1, 1, 0), "y\U0010ffff", el(1, 1, 1)),
		cut(2, 2, el(1, 1, 1), el(3, 1, 1)), cut(1, 2, el(1, 1, 3)), write(1, 3, el(2, 1, 0), "q", el(1, 1, 2)),
		toggle(3, 2, 1, 3, 0), toggle(2, 3, 1, 2, 0), toggle(1, 4, 1, 2, 1), toggle(3, 3, 1, 2, 0))
}

// letters are n runes of all lengths, each unlike its neighbours.
func letters(from, n int) string {
	var l []rune
	for i := range n {
		l = append(l, []rune{'a', 'ß', '\uffff', '\U0010ffff', '\n', '~', 'é'}[(from+i)%7])
	}
	return string(l)
}

// runes is a row of site 1 whose text has n runes, in as few ops as can be: the last op's stand first.
func runes(n int) []api.Op {
	var l []api.Op
	for n > 0 {
		k := min(n, api.MaxRunes)
		l = append(l, write(1, len(l)+1, begin, letters(len(l), k)))
		n -= k
	}
	return l
}

// elems are all elements that a row writes, by their numbers: rising, if its ops are of one site.
func elems(l []api.Op) []api.Elem {
	var all []api.Elem
	for _, o := range l {
		for i := range []rune(o.Text) {
			all = append(all, el(o.Site, o.Seq, i))
		}
	}
	return all
}

// toggles are n toggles of the edit 1, 1 by one site, with generations from 0 on.
func toggles(site, n int) []api.Op {
	var l []api.Op
	for i := range n {
		l = append(l, toggle(site, i+1, 1, 1, i))
	}
	return l
}

// badRows are rows that may not be.
func badRows() map[string][]api.Op {
	a := write(1, 1, begin, "ab")
	var many []api.Op
	for i := range 100000 {
		many = append(many, write(1, i+1, begin, "a"))
	}
	return map[string][]api.Op{
		"an op that may not be":    row(a, api.Op{}),
		"an op of no kind":         row(a, api.Op{Site: 1, Seq: 2, Kind: 3}),
		"a first number 2":         row(a, write(2, 2, begin, "a")),
		"a name twice":             row(a, a),
		"After of no op":           row(a, write(2, 1, el(3, 1, 0), "x")),
		"After beyond the runes":   row(a, write(2, 1, el(1, 1, 2), "x")),
		"Gone not rising":          row(a, cut(2, 1, el(1, 1, 1), el(1, 1, 0))),
		"a rune that may not be":   row(write(1, 1, begin, "a\tb")),
		"a toggle of no op":        row(toggle(1, 1, 1, 2, 0)),
		"a toggle of a toggle":     row(a, toggle(2, 1, 1, 1, 0), toggle(3, 1, 2, 1, 0)),
		"more ops than MaxOps":     plus(row(a), toggles(2, api.MaxOps)...),
		"more runes than MaxElems": runes(api.MaxElems + 1),
		"very many ops":            many,
	}
}

// badOps are ops that may not stand behind some.
func badOps() []api.Op {
	l := []api.Op{
		{}, write(1, 4, begin, "a"), write(1, 6, begin, "a"), write(4, 2, begin, "a"), write(4, 1, begin, ""), write(4, 1, begin, "a\t"), write(4, 1, begin, "\xff"),
		write(4, 1, begin, letters(0, api.MaxRunes+1)), write(4, 1, el(1, 1, 4), "a"), write(4, 1, el(3, 2, 0), "a"), write(4, 1, el(4, 1, 0), "a"),
		write(4, 1, el(1, 1, 0), "", el(1, 1, 0)), cut(4, 1, begin), cut(4, 1, el(1, 1, 4)), cut(4, 1, el(1, 1, 1), el(1, 1, 0)), cut(4, 1, el(1, 1, 0), el(1, 1, 0)),
		toggle(4, 1, 1, 4, 0), toggle(4, 1, 5, 1, 0), toggle(4, 1, 1, 1, -1), toggle(4, 1, 1, 1, api.MaxNum+1), toggle(4, 1, 4, 1, 0),
		{Site: 4, Seq: 1, Kind: api.KindToggle, Of: 1, Num: 1, Text: "a"}, {Site: 4, Seq: 1, Kind: api.KindEdit, Text: "a", Gen: 1},
	}
	for _, n := range []int{math.MinInt, -1, 0, api.MaxNum + 1, math.MaxInt} {
		l = append(l, write(n, 1, begin, "a"), write(4, n, begin, "a"), toggle(n, 1, 1, 1, 0), toggle(4, 1, n, 1, 0))
	}
	return append(l, write(api.MaxSites+1, 1, begin, "a"), toggle(api.MaxSites+1, 1, 1, 1, 0))
}

// moreOps are ops of a few sites, with numbers left out, that touch each other and what stands in "ab" of 1, 1.
func moreOps() []api.Op {
	a, b, x := el(1, 1, 0), el(1, 1, 1), el(2, 1, 0)
	return row(write(2, 0, begin, "xv"), write(2, 0, a, "yé", b), write(3, 0, x, "z", a, x), cut(3, 0, a), cut(1, 0, a, b), cut(1, 0, x),
		toggle(1, 0, 1, 1, 0), toggle(2, 0, 1, 1, 1), toggle(1, 0, 2, 1, 0), toggle(3, 0, 2, 1, 0), toggle(3, 0, 2, 1, 1), toggle(2, 0, 3, 1, 0))
}

// longer are the rows that come of l with one of moreOps behind.
func longer(l []api.Op) [][]api.Op {
	var rows [][]api.Op
	for _, o := range moreOps() {
		o.Seq = 1 + ofSite(l, o.Site)
		if m := plus(l, o); tree.Check(m) == api.OK {
			rows = append(rows, m)
		}
	}
	return rows
}

// smallRows are all rows that may be of "ab" and up to four ops more of moreOps.
func smallRows() [][]api.Op {
	rows := [][]api.Op{nil, row(write(1, 1, begin, "ab"))}
	for from, n := 1, 0; n < 4; n++ {
		last := rows[from:]
		from = len(rows)
		for _, l := range last {
			rows = append(rows, longer(l)...)
		}
	}
	return rows
}

// ofSite tells how many ops of a site a row has.
func ofSite(l []api.Op, site int) int {
	n := 0
	for _, o := range l {
		if o.Site == site {
			n++
		}
	}
	return n
}

// dice are numbers that look like any, and are the same each time.
type dice uint64

func (d *dice) below(n int) int {
	*d = *d*6364136223846793005 + 1442695040888963407
	return int(*d>>33) % n
}

// madeUp is a row that may be of MaxOps ops of all kinds. Every other one comes to more than MaxPlain visible runes.
func madeUp(seed int) []api.Op {
	d := dice(seed+1) * 2654435761 // seeds that are near each other begin far apart
	sites := 1 + d.below(api.MaxSites)
	l := row(write(1, 1, begin, letters(0, 1+d.below(api.MaxRunes))))
	for len(l) < api.MaxOps {
		site := 1 + d.below(sites)
		o := write(site, 1+ofSite(l, site), begin, "")
		all := elems(l)
		switch kind := d.below(6); {
		case kind == 0 || len(all)+api.MaxRunes > api.MaxElems:
			of := l[d.below(len(l))]
			for of.Kind != api.KindEdit {
				of = l[d.below(len(l))]
			}
			n, _ := doc.Count(l, of.Site, of.Seq)
			o = toggle(site, o.Seq, of.Site, of.Seq, n+d.below(5)/4)
		case kind == 1:
			o.Gone = d.picked(all, 1+d.below(12))
		default:
			o.Text = letters(d.below(7), 1+d.below(4+seed%2*8))
			if d.below(3) > 0 {
				o.After = all[d.below(len(all))]
			}
			if d.below(5) == 0 {
				o.Gone = d.picked(all, 1+d.below(3))
			}
		}
		l = append(l, o)
	}
	return l
}

// picked are at most n of all, rising.
func (d *dice) picked(all []api.Elem, n int) []api.Elem {
	var l []api.Elem
	for range n {
		l = append(l, all[d.below(len(all))])
	}
	slices.SortFunc(l, func(a, b api.Elem) int {
		return (a.Site-b.Site)*1000000 + (a.Seq-b.Seq)*1000 + a.I - b.I
	})
	return slices.Compact(l)
}

// ofByWords tells by the words the steps of o behind l, which may stand there.
func ofByWords(l []api.Op, o api.Op) []api.Prim {
	both := plus(l, o)
	ahead, _ := doc.Visible(l)
	behind, _ := doc.Visible(both)
	var all []api.Prim
	for at := len(ahead) - 1; at >= 0; at-- {
		if !slices.Contains(behind, ahead[at]) {
			r, _ := doc.Rune(both, ahead[at])
			all = append(all, out(o.Site, at, r))
		}
	}
	for at, e := range behind {
		if !slices.Contains(ahead, e) {
			r, _ := doc.Rune(both, e)
			all = append(all, in(o.Site, at, r))
		}
	}
	return all
}

// done tells the text behind steps of one that is of any length, and whether each fits what the ones ahead left.
func done(s string, l []api.Prim) (string, bool) {
	text := []rune(s)
	for _, p := range l {
		switch {
		case p.Kind == api.PrimIn && p.At >= 0 && p.At <= len(text):
			text = slices.Concat(text[:p.At], []rune{p.Rune}, text[p.At:])
		case p.Kind == api.PrimOut && p.At >= 0 && p.At < len(text) && text[p.At] == p.Rune:
			text = slices.Concat(text[:p.At], text[p.At+1:])
		default:
			return "", false
		}
	}
	return string(text), true
}

func wantOf(t *testing.T, l []api.Op, o api.Op, want []api.Prim) {
	t.Helper()
	if s, e := Of(l, o); !slices.Equal(s, want) || e != api.OK {
		t.Fatalf("Of(%v, %v) = %v, %v; want %v", l, o, s, e, want)
	}
}

// P10.1

func TestOfTellsTheSteps(t *testing.T) {
	if s, e := doc.Text(some()); s != "xayc" || e != api.OK {
		t.Fatalf("the row: %q, %v", s, e)
	}
	for _, c := range []struct {
		name string
		o    api.Op
		want []api.Prim
	}{
		{"two runes", write(4, 1, begin, "é\n"), steps(in(4, 0, 'é'), in(4, 1, '\n'))},
		{"a site that has ops", write(1, 5, begin, "é"), steps(in(1, 0, 'é'))},
		{"the last site", write(8, 1, begin, "é"), steps(in(8, 0, 'é'))},
		{"in the middle", write(4, 1, el(1, 1, 0), "pqr"), steps(in(4, 2, 'p'), in(4, 3, 'q'), in(4, 4, 'r'))},
		{"behind the last one", write(4, 1, el(1, 1, 2), "q"), steps(in(4, 4, 'q'))},
		{"behind what is gone", write(4, 1, el(1, 1, 1), "q"), steps(in(4, 3, 'q'))},
		{"behind what is gone, at the end", write(4, 1, el(1, 1, 3), "q"), steps(in(4, 4, 'q'))},
		{"behind what is not effective", write(4, 1, el(1, 3, 0), "q"), steps(in(4, 1, 'q'))},
		{"as many as can be", write(4, 1, el(1, 1, 2), "abcdefghijkl"), steps(in(4, 4, 'a'), in(4, 5, 'b'), in(4, 6, 'c'), in(4, 7, 'd'), in(4, 8, 'e'), in(4, 9, 'f'), in(4, 10, 'g'), in(4, 11, 'h'), in(4, 12, 'i'), in(4, 13, 'j'), in(4, 14, 'k'), in(4, 15, 'l'))},
		{"one gone", cut(4, 1, el(1, 1, 0)), steps(out(4, 1, 'a'))},
		{"all gone, the last one first", cut(4, 1, el(1, 1, 0), el(1, 1, 2), el(2, 1, 0), el(3, 1, 0)), steps(out(4, 3, 'c'), out(4, 2, 'y'), out(4, 1, 'a'), out(4, 0, 'x'))},
		{"apart from each other", cut(2, 4, el(1, 1, 2), el(2, 1, 0)), steps(out(2, 3, 'c'), out(2, 0, 'x'))},
		{"gone already", cut(4, 1, el(1, 1, 1), el(3, 1, 1)), nil},
		{"gone already, and one that is there", cut(4, 1, el(1, 1, 1), el(1, 1, 2), el(3, 1, 1)), steps(out(4, 3, 'c'))},
		{"not effective already", cut(4, 1, el(1, 3, 0)), nil},
		{"another text instead", write(4, 1, el(2, 1, 0), "pq", el(1, 1, 0), el(3, 1, 0)), steps(out(4, 2, 'y'), out(4, 1, 'a'), in(4, 1, 'p'), in(4, 2, 'q'))},
		{"out behind, in ahead", write(4, 1, begin, "p", el(1, 1, 2)), steps(out(4, 3, 'c'), in(4, 0, 'p'))},
		{"out ahead, in behind: at the place behind", write(4, 1, el(1, 1, 2), "p", el(1, 1, 0), el(2, 1, 0)), steps(out(4, 1, 'a'), out(4, 0, 'x'), in(4, 2, 'p'))},
		{"the same rune instead", write(4, 1, el(1, 1, 2), "c", el(1, 1, 2)), steps(out(4, 3, 'c'), in(4, 3, 'c'))},
		{"a text toggled: what it wrote goes, what by another one is gone stays so", toggle(4, 1, 1, 1, 0), steps(out(4, 3, 'c'), out(4, 1, 'a'))},
		{"a text toggled that has one gone twice", toggle(4, 1, 3, 1, 0), steps(out(4, 2, 'y'))},
		{"a cut toggled: one comes back, one that is gone twice stays so", toggle(4, 1, 2, 2, 0), steps(in(4, 3, '\U0010ffff'))},
		{"a cut toggled again", toggle(4, 1, 1, 2, 2), steps(in(4, 4, 'd'))},
		{"toggled back: out and in", toggle(4, 1, 1, 3, 1), steps(out(4, 3, 'c'), in(4, 1, 'q'))},
		{"a toggle that does not count: a generation below", toggle(4, 1, 1, 3, 0), nil},
		{"a toggle that does not count: one too far", toggle(4, 1, 1, 1, 1), nil},
		{"a toggle of its own site", toggle(2, 4, 2, 1, 0), steps(out(2, 0, 'x'))},
	} {
		if s, e := Of(some(), c.o); !slices.Equal(s, c.want) || e != api.OK {
			t.Errorf("%s: %v, %v; want %v", c.name, s, e, c.want)
		}
	}
}

func TestOfBehindNothing(t *testing.T) {
	for _, l := range [][]api.Op{nil, {}} {
		wantOf(t, l, write(1, 1, begin, "ab"), steps(in(1, 0, 'a'), in(1, 1, 'b')))
		for _, o := range row(write(1, 2, begin, "a"), cut(1, 1, el(2, 1, 0)), toggle(1, 1, 2, 1, 0)) {
			if s, e := Of(l, o); len(s) != 0 || e != api.ErrForm {
				t.Errorf("Of(%v, %v) = %v, %v; want ErrForm alone", l, o, s, e)
			}
		}
	}
}

func TestOfIsByTheWords(t *testing.T) {
	for _, l := range smallRows() {
		for _, m := range longer(l) {
			o := m[len(l)]
			wantOf(t, l, o, ofByWords(l, o))
		}
	}
}

func TestOfMadeUpRowsIsByTheWords(t *testing.T) {
	far := 0
	for seed := range 40 {
		l := madeUp(seed)
		if e := tree.Check(l); e != api.OK {
			t.Fatalf("row %d: %v", seed, e)
		}
		for n, o := range l {
			want := ofByWords(l[:n], o)
			wantOf(t, l[:n], o, want)
			if slices.ContainsFunc(want, func(p api.Prim) bool { return p.At > api.MaxPlain }) {
				far++
			}
		}
	}
	if far < 100 {
		t.Errorf("steps beyond MaxPlain: of %d ops alone", far)
	}
}

func TestOfBeyondMaxPlain(t *testing.T) {
	l := runes(api.MaxElems)
	s, _ := doc.Text(l)
	text := []rune(s)
	var outs, ins []api.Prim
	for at, r := range text {
		outs = append(steps(out(8, at, r)), outs...)
		ins = append(ins, in(7, at, r))
	}
	all := cut(8, 1, elems(l)...)
	wantOf(t, l, all, outs)
	wantOf(t, plus(l, all), toggle(7, 1, 8, 1, 0), ins)
	wantOf(t, l, cut(8, 1, el(1, 1, 11)), steps(out(8, 199, text[199])))
	wantOf(t, runes(api.MaxElems-1), write(2, 1, el(1, 1, 11), "z"), steps(in(2, 199, 'z')))
	for _, n := range []int{api.MaxPlain - 1, api.MaxPlain, api.MaxPlain + 1} {
		m := runes(n)
		wantOf(t, m, write(2, 1, el(1, 1, 11), "z"), steps(in(2, n, 'z')))
		s, _ := doc.Text(m)
		wantOf(t, m, cut(2, 1, el(1, 1, 11)), steps(out(2, n-1, []rune(s)[n-1])))
	}
}

func TestOfWhereThereIsNoRoom(t *testing.T) {
	l := plus(row(write(1, 1, begin, "a")), toggles(2, api.MaxOps-1)...)
	wantOf(t, l[:api.MaxOps-1], l[api.MaxOps-1], steps(out(2, 0, 'a')))
	full := runes(api.MaxElems)
	wantOf(t, full, toggle(2, 1, 1, 17, 1), nil)
	for _, c := range []struct {
		l []api.Op
		o api.Op
	}{
		{l, toggle(2, api.MaxOps, 1, 1, api.MaxOps-1)}, {l, write(3, 1, begin, "a")}, {full, write(2, 1, begin, "a")}, {runes(api.MaxElems - 1), write(2, 1, begin, "ab")},
	} {
		if s, e := Of(c.l, c.o); len(s) != 0 || e != api.ErrForm {
			t.Errorf("Of(%v, %v) = %v, %v; want ErrForm alone", c.l, c.o, s, e)
		}
	}
}

func TestOfWhatMayNotBe(t *testing.T) {
	for _, o := range badOps() {
		if s, e := Of(some(), o); len(s) != 0 || e != api.ErrForm {
			t.Errorf("Of(.., %v) = %v, %v; want ErrForm alone", o, s, e)
		}
	}
	for name, l := range badRows() {
		for _, o := range row(write(8, 1, begin, "x"), write(1, 2, begin, "x"), cut(8, 1, el(1, 1, 0)), toggle(8, 1, 1, 1, 0), toggle(8, 1, 1, 1, 5), api.Op{}) {
			if s, e := Of(l, o); len(s) != 0 || e != api.ErrForm {
				t.Errorf("%s: Of(.., %v) = %v, %v; want ErrForm alone", name, o, s, e)
			}
		}
	}
}

// P10.2

func TestAllTellsTheSteps(t *testing.T) {
	want := steps(in(1, 0, 'a'), in(1, 1, 'ß'), in(1, 2, 'c'), in(1, 3, 'd'), in(2, 0, 'x'),
		out(3, 2, 'ß'), in(3, 2, 'y'), in(3, 3, '\U0010ffff'), out(2, 3, '\U0010ffff'), out(1, 4, 'd'),
		out(1, 3, 'c'), in(1, 1, 'q'), out(3, 1, 'q'), in(3, 3, 'c'), in(2, 4, 'd'), out(1, 4, 'd'))
	if s, e := All(some()); !slices.Equal(s, want) || e != api.OK {
		t.Errorf("All: %v, %v; want %v", s, e, want)
	}
}

func TestAllIsOfEachOp(t *testing.T) {
	rows := smallRows()
	for seed := range 20 {
		rows = append(rows, madeUp(seed))
	}
	for _, l := range rows {
		var want []api.Prim
		for n, o := range l {
			want = append(want, ofByWords(l[:n], o)...)
		}
		if s, e := All(l); !slices.Equal(s, want) || e != api.OK {
			t.Fatalf("All(%v) = %v, %v; want %v", l, s, e, want)
		}
	}
}

func TestNothingIsPlayed(t *testing.T) {
	a := write(1, 1, begin, "ab")
	for _, l := range [][]api.Op{nil, {}, {a, cut(2, 1, el(1, 1, 0), el(1, 1, 1))}, {a, toggle(1, 2, 1, 1, 0)}} {
		s, e := All(l)
		if len(s) != 2*len(l) || e != api.OK {
			t.Errorf("All(%v) = %v, %v", l, s, e)
		}
		if s, e := Play(l); s != "" || e != api.OK {
			t.Errorf("Play(%v) = %q, %v", l, s, e)
		}
	}
}

func TestPlayTellsTheText(t *testing.T) {
	for n, want := range []string{"", "aßcd", "xaßcd", "xay\U0010ffffcd", "xaycd", "xayc", "xqay", "xayc", "xaycd", "xayc", "xayc"} {
		if s, e := Play(some()[:n]); s != want || e != api.OK {
			t.Errorf("%d ops: %q, %v; want %q", n, s, e, want)
		}
	}
}

func TestPlayIsByTheSteps(t *testing.T) {
	for seed := range 40 {
		l := madeUp(seed)
		all, e := All(l)
		want, fit := done("", all)
		s, f := Play(l)
		if s != want || !fit || e != api.OK || f != api.OK {
			t.Errorf("Play(%v) = %q, %v; by its steps %q, %v, %v", l, s, f, want, fit, e)
		}
	}
}

func TestAllAndPlayOfWhatMayNotBe(t *testing.T) {
	rows := badRows()
	for i, o := range badOps() {
		rows["bad op "+strconv.Itoa(i)+", last"] = plus(some(), o)
		rows["bad op "+strconv.Itoa(i)+", in the middle"] = plus(some(), o, write(5, 1, begin, "a"))
	}
	for name, l := range rows {
		s, e := All(l)
		p, f := Play(l)
		if len(s) != 0 || p != "" || e != api.ErrForm || f != api.ErrForm {
			t.Errorf("%s: %v, %v; %q, %v; want ErrForm alone", name, s, e, p, f)
		}
	}
}

// P10.3

func wantPlayed(t *testing.T, l []api.Op) {
	t.Helper()
	want, e := doc.Text(l)
	if s, f := Play(l); s != want || e != api.OK || f != api.OK {
		t.Fatalf("Play(%v) = %q, %v; want %q, %v", l, s, f, want, e)
	}
}

func TestPlayTellsTheTextOfSmallRows(t *testing.T) {
	for _, l := range smallRows() {
		wantPlayed(t, l)
	}
}

func TestPlayTellsTheTextOfMadeUpRows(t *testing.T) {
	for seed := range 20 {
		l := madeUp(seed)
		for n := range len(l) + 1 {
			wantPlayed(t, l[:n])
		}
	}
}

func TestPlayTellsTheTextOfFullRows(t *testing.T) {
	for n := range api.MaxElems + 1 {
		wantPlayed(t, runes(n))
	}
	l := runes(api.MaxElems)
	all := cut(8, 1, elems(l)...)
	back := plus(l, all, toggle(7, 1, 8, 1, 0))
	for _, m := range [][]api.Op{plus(l, all), back, plus(back, cut(8, 2, elems(l)[150:]...)), plus(back, toggle(7, 2, 1, 9, 0))} {
		wantPlayed(t, m)
	}
	for n := range api.MaxOps {
		wantPlayed(t, plus(row(write(1, 1, begin, "aß")), toggles(2, n)...))
	}
}

// Of turns the text ahead into the one behind; where there is room, xform says so, too.
func TestStepsTurnTheText(t *testing.T) {
	rows := [][]api.Op{some(), runes(api.MaxPlain), runes(api.MaxElems)}
	for seed := range 40 {
		rows = append(rows, madeUp(seed))
	}
	for _, l := range rows {
		for n, o := range l {
			ahead, _ := doc.Text(l[:n])
			behind, _ := doc.Text(l[:n+1])
			s, e := Of(l[:n], o)
			if got, fit := done(ahead, s); got != behind || !fit || e != api.OK {
				t.Fatalf("%q behind %v, %v: %q, %v; want %q", ahead, s, e, got, fit, behind)
			}
			if len([]rune(ahead)) > api.MaxPlain || len([]rune(behind)) > api.MaxPlain {
				continue
			}
			if got, e := xform.Row([]rune(ahead), s...); string(got) != behind || e != api.OK {
				t.Fatalf("xform.Row(%q, %v) = %q, %v; want %q", ahead, s, string(got), e, behind)
			}
		}
	}
}

// R1, R2

// roomy is a copy of a row with room behind it, in which no zero stands.
func roomy(l []api.Op) []api.Op {
	l = append(copied(l), write(8, 8, begin, "room"), write(8, 9, begin, "room"))
	return l[:len(l)-2]
}

// copied is a copy of a row that shares no Gone with it.
func copied(l []api.Op) []api.Op {
	var m []api.Op
	for _, o := range l {
		o.Gone = slices.Clone(o.Gone)
		m = append(m, o)
	}
	return m
}

func TestRowIsNotChanged(t *testing.T) {
	for _, from := range [][]api.Op{nil, some(), runes(api.MaxElems), madeUp(1), plus(some(), api.Op{})} {
		l := roomy(from)
		was := copied(l[:cap(l)])
		gone := append(make([]api.Elem, 0, 8), el(1, 1, 0), el(1, 1, 1))
		for _, o := range row(write(8, 1, begin, "ab"), cut(8, 1, gone...), toggle(8, 1, 1, 1, 0), api.Op{}) {
			first, e := Of(l, o)
			second, f := Of(l, o)
			if !slices.Equal(first, second) || e != f {
				t.Errorf("Of the second time: %v, %v; the first time: %v, %v", second, f, first, e)
			}
		}
		s, e := All(l)
		again, f := All(l)
		p, g := Play(l)
		more, h := Play(l)
		if !slices.Equal(s, again) || p != more || e != f || g != h {
			t.Errorf("the second time: %v, %v, %q, %v; the first time: %v, %v, %q, %v", again, f, more, h, s, e, p, g)
		}
		if !reflect.DeepEqual(l[:cap(l)], was) {
			t.Errorf("the row, or the room behind it, was %v, is %v", was, l[:cap(l)])
		}
		if !slices.Equal(gone[:3], []api.Elem{el(1, 1, 0), el(1, 1, 1), {}}) {
			t.Errorf("the op's Gone: %v", gone[:3])
		}
	}
}

// spoil writes into each step of l, and into the spare room.
func spoil(l []api.Prim) {
	all := l[:cap(l)]
	for i := range all {
		all[i] = in(8, 8, 'q')
	}
}

func TestAnswersAreNotShared(t *testing.T) {
	l, o := some(), toggle(4, 1, 1, 3, 1)
	for name, call := range map[string]func() ([]api.Prim, api.Errno){
		"Of":  func() ([]api.Prim, api.Errno) { return Of(l, o) },
		"All": func() ([]api.Prim, api.Errno) { return All(l) },
	} {
		first, e := call()
		want := slices.Clone(first)
		second, f := call()
		spoil(first)
		third, g := call()
		if len(want) == 0 || !slices.Equal(second, want) || !slices.Equal(third, want) || e != api.OK || f != api.OK || g != api.OK {
			t.Errorf("%s: %v, %v, then %v, %v; want %v", name, second, f, third, g, want)
		}
	}
	if s, e := Play(l); s != "xayc" || e != api.OK {
		t.Errorf("Play: %q, %v", s, e)
	}
}
