package tree

import (
	"math"
	"reflect"
	"slices"
	"strings"
	"testing"

	"lectionary/api"
)

var begin = api.Elem{}

func el(site, seq, i int) api.Elem { return api.Elem{Site: site, Seq: seq, I: i} }

func write(site, seq int, after api.Elem, s string, gone ...api.Elem) api.Op {
	return api.Op{Site: site, Seq: seq, Kind: api.KindEdit, After: after, Text: s, Gone: gone}
}

func cut(site, seq int, gone ...api.Elem) api.Op {
	return api.Op{Site: site, Seq: seq, Kind: api.KindEdit, Gone: gone}
}

func toggle(site, seq, of, num, gen int) api.Op {
	return api.Op{Site: site, Seq: seq, Kind: api.KindToggle, Of: of, Num: num, Gen: gen}
}

func row(l ...api.Op) []api.Op { return l }

// writes are n ops of one site that each write s at the begin.
func writes(site, n int, s string) []api.Op {
	var l []api.Op
	for i := range n {
		l = append(l, write(site, i+1, begin, s))
	}
	return l
}

// full is a row whose texts have MaxElems runes, all of them by one site.
func full(site int) []api.Op {
	l := writes(site, api.MaxElems/api.MaxRunes, strings.Repeat("é", api.MaxRunes))
	return append(l, write(site, len(l)+1, begin, strings.Repeat("é", api.MaxElems%api.MaxRunes)))
}

func plus(l []api.Op, more ...api.Op) []api.Op { return slices.Concat(l, more) }

// goodRows are rows that may be, with their elements in order, where these are few.
var goodRows = []struct {
	name string
	l    []api.Op
	want []api.Elem
}{
	{"nothing", nil, nil},
	{"an empty list", []api.Op{}, nil},
	{"one op", row(write(1, 1, begin, "abc")), []api.Elem{el(1, 1, 0), el(1, 1, 1), el(1, 1, 2)}},
	{"runes, not bytes", row(write(1, 1, begin, "é\n\U0010ffff")), []api.Elem{el(1, 1, 0), el(1, 1, 1), el(1, 1, 2)}},
	{"two at the begin", row(write(1, 1, begin, "ab"), write(2, 1, begin, "c")), []api.Elem{el(2, 1, 0), el(1, 1, 0), el(1, 1, 1)}},
	{"two at the begin, the later one of the lower site", row(write(2, 1, begin, "ab"), write(1, 1, begin, "c")),
		[]api.Elem{el(1, 1, 0), el(2, 1, 0), el(2, 1, 1)}},
	{"behind one's own", row(write(1, 1, begin, "ab"), write(1, 2, el(1, 1, 1), "c")), []api.Elem{el(1, 1, 0), el(1, 1, 1), el(1, 2, 0)}},
	{"into one's own", row(write(1, 1, begin, "ab"), write(1, 2, el(1, 1, 0), "c")), []api.Elem{el(1, 1, 0), el(1, 2, 0), el(1, 1, 1)}},
	{"two into one, both ahead of its rest", row(write(8, 1, begin, "ab"), write(2, 1, el(8, 1, 0), "cd"), write(1, 1, el(8, 1, 0), "ef")),
		[]api.Elem{el(8, 1, 0), el(1, 1, 0), el(1, 1, 1), el(2, 1, 0), el(2, 1, 1), el(8, 1, 1)}},
	{"what hangs under one stays ahead of what hangs beside it",
		row(write(1, 1, begin, "ab"), write(2, 1, el(1, 1, 0), "c"), write(3, 1, el(1, 1, 0), "d"), write(4, 1, el(2, 1, 0), "e"), write(5, 1, el(3, 1, 0), "f")),
		[]api.Elem{el(1, 1, 0), el(3, 1, 0), el(5, 1, 0), el(2, 1, 0), el(4, 1, 0), el(1, 1, 1)}},
	{"a later op deep down comes behind an earlier one higher up",
		row(write(1, 1, begin, "a"), write(2, 1, begin, "b"), write(3, 1, el(1, 1, 0), "c")), []api.Elem{el(2, 1, 0), el(1, 1, 0), el(3, 1, 0)}},
	{"a cut writes none", row(write(1, 1, begin, "ab"), cut(2, 1, el(1, 1, 0))), []api.Elem{el(1, 1, 0), el(1, 1, 1)}},
	{"what is gone stays, and may be gone again", row(write(1, 1, begin, "ab"), cut(2, 1, el(1, 1, 0), el(1, 1, 1)), cut(3, 1, el(1, 1, 0))),
		[]api.Elem{el(1, 1, 0), el(1, 1, 1)}},
	{"behind what is gone", row(write(1, 1, begin, "ab"), cut(2, 1, el(1, 1, 0)), write(3, 1, el(1, 1, 0), "c")),
		[]api.Elem{el(1, 1, 0), el(3, 1, 0), el(1, 1, 1)}},
	{"behind what it takes away itself", row(write(1, 1, begin, "ab"), write(2, 1, el(1, 1, 0), "c", el(1, 1, 0), el(1, 1, 1))),
		[]api.Elem{el(1, 1, 0), el(2, 1, 0), el(1, 1, 1)}},
	{"Gone of two ops", row(write(1, 1, begin, "a"), write(2, 1, begin, "b"), cut(1, 2, el(1, 1, 0), el(2, 1, 0))), []api.Elem{el(2, 1, 0), el(1, 1, 0)}},
	{"a toggle", row(write(1, 1, begin, "a"), toggle(2, 1, 1, 1, 0)), []api.Elem{el(1, 1, 0)}},
	{"toggles of all generations", row(write(1, 1, begin, "a"), toggle(2, 1, 1, 1, api.MaxNum), toggle(2, 2, 1, 1, 7), toggle(1, 2, 1, 1, 7)),
		[]api.Elem{el(1, 1, 0)}},
	{"a toggle of a cut", row(write(1, 1, begin, "a"), cut(1, 2, el(1, 1, 0)), toggle(1, 3, 1, 2, 0)), []api.Elem{el(1, 1, 0)}},
	{"a toggle counts as an op of its site", row(write(1, 1, begin, "a"), toggle(1, 2, 1, 1, 0), write(1, 3, begin, "b")),
		[]api.Elem{el(1, 3, 0), el(1, 1, 0)}},
	{"behind what is not effective", row(write(1, 1, begin, "a"), toggle(2, 1, 1, 1, 0), write(2, 2, el(1, 1, 0), "b")),
		[]api.Elem{el(1, 1, 0), el(2, 2, 0)}},
	{"sites in any order", row(write(8, 1, begin, "a"), write(3, 1, el(8, 1, 0), "b"), write(8, 2, el(3, 1, 0), "c")),
		[]api.Elem{el(8, 1, 0), el(3, 1, 0), el(8, 2, 0)}},
	{"MaxOps edits", writes(1, api.MaxOps, "a"), nil},
	{"MaxOps, all but one toggles", plus(row(write(1, 1, begin, "a")), toggles(api.MaxOps-1)...), []api.Elem{el(1, 1, 0)}},
	{"MaxElems runes", full(1), nil},
	{"MaxElems runes, a cut and a toggle behind", plus(full(1), cut(2, 1, el(1, 1, 11)), toggle(2, 2, 1, 1, 0)), nil},
	{"the last of MaxRunes", row(write(1, 1, begin, strings.Repeat("a", api.MaxRunes)), cut(2, 1, el(1, 1, api.MaxRunes-1))), nil},
}

// toggles are n toggles of site 2, of one op.
func toggles(n int) []api.Op {
	var l []api.Op
	for i := range n {
		l = append(l, toggle(2, i+1, 1, 1, i))
	}
	return l
}

// badRows are rows that may not be, most of them but one thing away from one that may.
func badRows() map[string][]api.Op {
	a := write(1, 1, begin, "ab")
	m := map[string][]api.Op{
		"an op that may not be":                     row(api.Op{}),
		"a begin that is none":                      row(write(1, 1, el(0, 0, 1), "a")),
		"no text, but After":                        row(a, write(2, 1, el(1, 1, 0), "")),
		"Gone not rising":                           row(a, cut(2, 1, el(1, 1, 1), el(1, 1, 0))),
		"a first number 0":                          row(write(1, 0, begin, "a")),
		"a first number 2":                          row(write(1, 2, begin, "a")),
		"a name twice":                              row(a, a),
		"a name twice, with another text":           row(a, write(1, 1, begin, "x")),
		"a name twice, of an edit and a toggle":     row(a, write(2, 1, begin, "x"), toggle(2, 1, 1, 1, 0)),
		"a number left out":                         row(a, write(1, 3, begin, "a")),
		"a number that fits all ops":                row(a, write(2, 2, begin, "a")),
		"numbers the other way round":               row(write(1, 2, begin, "a"), a),
		"a toggle's number not counted":             row(a, toggle(1, 2, 1, 1, 0), write(1, 2, begin, "b")),
		"After of no op":                            row(a, write(2, 1, el(3, 1, 0), "x")),
		"After of an op behind":                     row(write(2, 1, el(1, 1, 0), "x"), a),
		"After of a later op of its site":           row(a, write(2, 1, el(2, 2, 0), "x"), write(2, 2, begin, "y")),
		"After beyond the text":                     row(a, write(2, 1, el(1, 1, 2), "x")),
		"After beyond the runes, not the bytes":     row(write(1, 1, begin, "é"), write(2, 1, el(1, 1, 1), "x")),
		"After of a cut":                            row(a, cut(1, 2, el(1, 1, 0)), write(2, 1, el(1, 2, 0), "x")),
		"After of a toggle":                         row(a, toggle(1, 2, 1, 1, 0), write(2, 1, el(1, 2, 0), "x")),
		"Gone of no op":                             row(a, cut(2, 1, el(3, 1, 0))),
		"Gone of an op behind":                      row(cut(2, 1, el(1, 1, 0)), a),
		"Gone beyond the text":                      row(a, cut(2, 1, el(1, 1, 2))),
		"Gone beyond the text, behind a good one":   row(a, cut(2, 1, el(1, 1, 1), el(1, 1, 2))),
		"Gone beyond the text, ahead of a good one": row(a, write(3, 1, begin, "x"), cut(2, 1, el(1, 1, 2), el(3, 1, 0))),
		"Gone of a cut":                             row(a, cut(1, 2, el(1, 1, 0)), cut(2, 1, el(1, 2, 0))),
		"Gone of a toggle":                          row(a, toggle(1, 2, 1, 1, 0), cut(2, 1, el(1, 2, 0))),
		"Gone bad, After good":                      row(a, write(2, 1, el(1, 1, 0), "x", el(1, 1, 2))),
		"After bad, Gone good":                      row(a, write(2, 1, el(1, 1, 2), "x", el(1, 1, 0))),
		"a toggle of no op":                         row(a, toggle(2, 1, 1, 2, 0)),
		"a toggle of no site":                       row(a, toggle(2, 1, 3, 1, 0)),
		"a toggle alone":                            row(toggle(2, 1, 1, 1, 0)),
		"a toggle ahead":                            row(toggle(2, 1, 1, 1, 0), a),
		"a toggle of a toggle":                      row(a, toggle(2, 1, 1, 1, 0), toggle(3, 1, 2, 1, 0)),
		"a toggle of a toggle of its site":          row(a, toggle(2, 1, 1, 1, 0), toggle(2, 2, 2, 1, 0)),
		"one op more than MaxOps":                   writes(1, api.MaxOps+1, "a"),
		"one toggle more than MaxOps":               plus(row(a), toggles(api.MaxOps)...),
		"very many ops":                             writes(1, 100000, "a"),
		"one rune more than MaxElems":               plus(full(1), write(1, 18, begin, "a")),
		"one rune more, of another site":            plus(full(1), write(2, 1, el(1, 1, 0), "a", el(1, 1, 0))),
		"one rune more, behind one that may be":     plus(full(1), cut(2, 1, el(1, 1, 0)), write(2, 2, begin, "a")),
		"MaxElems overrun by many": plus(writes(1, api.MaxElems/api.MaxRunes, strings.Repeat("a", api.MaxRunes)),
			write(2, 1, begin, strings.Repeat("a", api.MaxRunes))),
	}
	for name, l := range badOnes() {
		m[name] = l
	}
	return m
}

// badOnes are good rows, each with one op that may not be at one place.
func badOnes() map[string][]api.Op {
	m := map[string][]api.Op{}
	good := row(write(1, 1, begin, "ab"), write(1, 2, el(1, 1, 0), "c"), cut(1, 3, el(1, 2, 0)), toggle(1, 4, 1, 3, 0))
	for i := range good {
		for name, do := range map[string]func(o *api.Op){
			"Site 0":       func(o *api.Op) { o.Site = 0 },
			"Site below":   func(o *api.Op) { o.Site = math.MinInt },
			"Site above":   func(o *api.Op) { o.Site = api.MaxSites + 1 },
			"Site far":     func(o *api.Op) { o.Site = math.MaxInt },
			"Kind 0":       func(o *api.Op) { o.Kind = api.KindNone },
			"Kind above":   func(o *api.Op) { o.Kind = 3 },
			"Seq below":    func(o *api.Op) { o.Seq = math.MinInt },
			"Seq far":      func(o *api.Op) { o.Seq = math.MaxInt },
			"Gen below":    func(o *api.Op) { o.Gen = -1 },
			"a bad text":   func(o *api.Op) { o.Text = "\t" },
			"a long text":  func(o *api.Op) { o.Text = strings.Repeat("a", api.MaxRunes+1) },
			"the begin":    func(o *api.Op) { o.Gone = []api.Elem{begin} },
			"a bad After":  func(o *api.Op) { o.After = el(1, 1, -1) },
			"itself taken": func(o *api.Op) { o.Gone = []api.Elem{el(o.Site, o.Seq, 0)} },
		} {
			l := slices.Clone(good)
			do(&l[i])
			m[name+" at "+string(rune('0'+i))] = l
		}
	}
	return m
}

// strange are elements that no row writes.
func strange() []api.Elem {
	l := []api.Elem{el(0, 0, 1), el(0, 0, -1), el(0, 1, 0), el(1, 0, 0), el(1, 1, -1), el(1, 1, api.MaxRunes), el(8, api.MaxNum, 0)}
	for _, n := range []int{math.MinInt, math.MaxInt} {
		l = append(l, el(n, 1, 0), el(1, n, 0), el(1, 1, n), el(n, n, n))
	}
	return l
}

// inserted is the order by another way: what an op writes lands right behind its After.
func inserted(l []api.Op) []api.Elem {
	var all []api.Elem
	for _, o := range l {
		at := slices.Index(all, o.After) + 1
		for i := range []rune(o.Text) {
			all = slices.Insert(all, at+i, el(o.Site, o.Seq, i))
		}
	}
	return all
}

// below tells what hangs right under e by the words: the first ones of later ops first, the next one of its own op last.
func below(l []api.Op, e api.Elem) []api.Elem {
	var all []api.Elem
	for _, o := range slices.Backward(l) {
		if o.Kind == api.KindEdit && o.Text != "" && o.After == e {
			all = append(all, el(o.Site, o.Seq, 0))
		}
	}
	for _, o := range l {
		if o.Site == e.Site && o.Seq == e.Seq && e.I+1 < len([]rune(o.Text)) {
			all = append(all, el(e.Site, e.Seq, e.I+1))
		}
	}
	return all
}

// dice tells numbers below n, always the same ones.
type dice uint32

func (d *dice) below(n int) int {
	*d = *d*1664525 + 1013904223
	return int(uint64(*d) * uint64(n) >> 32)
}

// madeUp is a row that may be, with ops of all kinds, as long as it can be.
func madeUp(seed int) []api.Op {
	d := dice(seed+1) * 2654435761 // seeds that are near each other begin far apart
	sites, longest := 1+d.below(api.MaxSites), 1+d.below(api.MaxRunes)
	var l []api.Op
	var all []api.Elem
	var edits []api.Elem
	count := map[int]int{}
	for len(l) < api.MaxOps {
		site := 1 + d.below(sites)
		o := write(site, count[site]+1, begin, "")
		switch k := d.below(6); {
		case k == 0 && len(edits) > 0:
			of := edits[d.below(len(edits))]
			o = toggle(site, count[site]+1, of.Site, of.Seq, d.below(3))
		case k == 1 && len(all) > 0:
			o.Gone = []api.Elem{all[d.below(len(all))]}
		default:
			o.Text = strings.Repeat("é", min(1+d.below(longest), api.MaxElems-len(all)))
			if k > 2 && len(all) > 0 {
				o.After = all[d.below(len(all))]
			}
		}
		if o.Kind == api.KindEdit && o.Text == "" && len(o.Gone) == 0 {
			break
		}
		count[site]++
		if o.Kind == api.KindEdit {
			edits = append(edits, el(site, o.Seq, 0))
		}
		l = append(l, o)
		all = inserted(l)
	}
	return l
}

const seeds = 60

// P5.1

func TestRowsThatMayBe(t *testing.T) {
	for _, c := range goodRows {
		if e := Check(c.l); e != api.OK {
			t.Errorf("%s: Check: %v", c.name, e)
		}
		l, e := Order(c.l)
		if c.want != nil && !slices.Equal(l, c.want) || !slices.Equal(l, inserted(c.l)) || e != api.OK {
			t.Errorf("%s: Order: %v, %v; want %v", c.name, l, e, inserted(c.l))
		}
	}
}

func TestRowsThatMayNotBe(t *testing.T) {
	for name, l := range badRows() {
		if e := Check(l); e != api.ErrForm {
			t.Errorf("%s: Check: %v; want ErrForm", name, e)
		}
		if all, e := Order(l); len(all) != 0 || e != api.ErrForm {
			t.Errorf("%s: Order: %v, %v; want ErrForm alone", name, all, e)
		}
		// ErrForm is told ahead of ErrNone.
		for _, x := range append(strange(), begin, el(1, 1, 0), el(1, 2, 0)) {
			if n, e := Place(l, x); n != 0 || e != api.ErrForm {
				t.Errorf("%s: Place of %v: %v, %v; want ErrForm alone", name, x, n, e)
			}
			if all, e := Under(l, x); len(all) != 0 || e != api.ErrForm {
				t.Errorf("%s: Under of %v: %v, %v; want ErrForm alone", name, x, all, e)
			}
			if len(l) > 1000 {
				break
			}
		}
	}
}

func TestOrderIsAsInserted(t *testing.T) {
	for seed := range seeds {
		l := madeUp(seed)
		for n := range len(l) + 1 {
			all, e := Order(l[:n])
			if want := inserted(l[:n]); !slices.Equal(all, want) || e != api.OK {
				t.Fatalf("seed %d, %d ops: %v, %v; want %v", seed, n, all, e, want)
			}
		}
	}
}

func TestPlaceOfEach(t *testing.T) {
	for seed := range seeds {
		l := madeUp(seed)
		for want, x := range inserted(l) {
			if n, e := Place(l, x); n != want || e != api.OK {
				t.Errorf("seed %d: Place of %v: %v, %v; want %d", seed, x, n, e, want)
			}
		}
	}
}

func TestPlaceOfWhatIsNotWritten(t *testing.T) {
	for _, c := range goodRows {
		for _, x := range append(strange(), notWritten(c.l)...) {
			if n, e := Place(c.l, x); n != 0 || e != api.ErrNone {
				t.Errorf("%s: Place of %v: %v, %v; want ErrNone alone", c.name, x, n, e)
			}
		}
		if n, e := Place(c.l, begin); n != 0 || e != api.ErrNone {
			t.Errorf("%s: Place of the begin: %v, %v; want ErrNone alone", c.name, n, e)
		}
	}
}

// notWritten are the elements that each op of a row would write next: of a cut or a toggle its first one.
func notWritten(l []api.Op) []api.Elem {
	var all []api.Elem
	for _, o := range l {
		all = append(all, el(o.Site, o.Seq, len([]rune(o.Text))))
	}
	return append(all, el(1, len(l)+1, 0))
}

// P5.2

func TestUnderEach(t *testing.T) {
	l := row(write(1, 1, begin, "abc"), write(2, 1, el(1, 1, 0), "xy"), write(3, 1, el(1, 1, 0), "z"), write(3, 2, begin, "w"),
		cut(1, 2, el(1, 1, 0)), write(1, 3, el(1, 1, 2), "v", el(3, 1, 0)), toggle(2, 2, 2, 1, 0))
	for _, c := range []struct {
		e    api.Elem
		want []api.Elem
	}{
		{begin, []api.Elem{el(3, 2, 0), el(1, 1, 0)}},
		{el(1, 1, 0), []api.Elem{el(3, 1, 0), el(2, 1, 0), el(1, 1, 1)}},
		{el(1, 1, 1), []api.Elem{el(1, 1, 2)}},
		{el(1, 1, 2), []api.Elem{el(1, 3, 0)}},
		{el(1, 3, 0), nil},
		{el(2, 1, 0), []api.Elem{el(2, 1, 1)}},
		{el(2, 1, 1), nil},
		{el(3, 1, 0), nil},
		{el(3, 2, 0), nil},
	} {
		if all, e := Under(l, c.e); !slices.Equal(all, c.want) || e != api.OK {
			t.Errorf("Under %v: %v, %v; want %v", c.e, all, e, c.want)
		}
	}
}

func TestUnderIsByTheWords(t *testing.T) {
	for seed := range seeds {
		l := madeUp(seed)
		for _, x := range append(inserted(l), begin) {
			all, e := Under(l, x)
			if want := below(l, x); !slices.Equal(all, want) || e != api.OK {
				t.Errorf("seed %d: Under %v: %v, %v; want %v", seed, x, all, e, want)
			}
		}
	}
}

func TestUnderOfWhatIsNotWritten(t *testing.T) {
	for _, c := range goodRows {
		for _, x := range append(strange(), notWritten(c.l)...) {
			if all, e := Under(c.l, x); len(all) != 0 || e != api.ErrNone {
				t.Errorf("%s: Under %v: %v, %v; want ErrNone alone", c.name, x, all, e)
			}
		}
	}
}

func TestUnderTheBeginOfNothing(t *testing.T) {
	if all, e := Under(nil, begin); len(all) != 0 || e != api.OK {
		t.Errorf("%v, %v; want none, OK", all, e)
	}
}

// The order is the tree's: each element ahead of what hangs under it, that ahead of what hangs beside it behind.
func TestOrderIsTheTreeOfUnder(t *testing.T) {
	for seed := range seeds / 4 {
		l := madeUp(seed)
		var all []api.Elem
		var visit func(e api.Elem)
		visit = func(e api.Elem) {
			under, _ := Under(l, e)
			for _, x := range under {
				all = append(all, x)
				visit(x)
			}
		}
		visit(begin)
		if order, e := Order(l); !slices.Equal(all, order) || e != api.OK {
			t.Errorf("seed %d: %v; Order: %v, %v", seed, all, order, e)
		}
	}
}

// P5.3

// left is what of all is among some.
func left(all, some []api.Elem) []api.Elem {
	return slices.DeleteFunc(slices.Clone(all), func(e api.Elem) bool { return !slices.Contains(some, e) })
}

func TestOneMoreChangesNoOrder(t *testing.T) {
	for seed := range seeds {
		l := madeUp(seed)
		for n := range l {
			ahead, _ := Order(l[:n])
			behind, e := Order(l[:n+1])
			if !slices.Equal(left(behind, ahead), ahead) || e != api.OK {
				t.Fatalf("seed %d, op %d: %v, then %v, %v", seed, n, ahead, behind, e)
			}
		}
	}
}

func TestOneMoreAtEachPlace(t *testing.T) {
	l := row(write(2, 1, begin, "abc"), write(1, 1, el(2, 1, 0), "de"), write(3, 1, el(2, 1, 0), "f"), write(3, 2, begin, "g", el(1, 1, 0)), toggle(1, 2, 1, 1, 0))
	ahead, _ := Order(l)
	for _, x := range append(slices.Clone(ahead), begin) {
		for _, site := range []int{1, 8} {
			o := write(site, 1, x, "uv")
			if site == 1 {
				o.Seq = 3
			}
			behind, e := Order(plus(l, o))
			if !slices.Equal(left(behind, ahead), ahead) || len(behind) != len(ahead)+2 || e != api.OK {
				t.Errorf("behind %v: %v, %v", x, behind, e)
			}
		}
	}
}

// R1, R2

func TestRowIsNotChanged(t *testing.T) {
	for seed := range seeds {
		l := append(make([]api.Op, 0, api.MaxOps+9), madeUp(seed)...)
		was := make([]api.Op, len(l))
		for i, o := range l {
			o.Gone = slices.Clone(o.Gone)
			was[i] = o
		}
		for range 2 {
			Check(l)
			Order(l)
			Place(l, el(1, 1, 0))
			Under(l, begin)
		}
		if !reflect.DeepEqual(l, was) || !reflect.DeepEqual(l[:len(l)+1][len(l)], api.Op{}) {
			t.Errorf("seed %d: the row is another one", seed)
		}
	}
}

func TestAnswersAreNotShared(t *testing.T) {
	l := row(write(1, 1, begin, "abc"), write(2, 1, begin, "d"), write(2, 2, el(1, 1, 0), "e", el(1, 1, 1)))
	under := func(l []api.Op) ([]api.Elem, api.Errno) { return Under(l, begin) }
	for _, call := range []func([]api.Op) ([]api.Elem, api.Errno){Order, under} {
		first, _ := call(l)
		second, _ := call(l)
		want := slices.Clone(second)
		for i := range first[:cap(first)] {
			first[:cap(first)][i] = el(8, 8, 8)
		}
		third, _ := call(l)
		if len(want) == 0 || !slices.Equal(second, want) || !slices.Equal(third, want) {
			t.Errorf("%v, %v; want %v", second, third, want)
		}
	}
	if !slices.Equal(l[2].Gone, []api.Elem{el(1, 1, 1)}) {
		t.Errorf("the op's Gone: %v", l[2].Gone)
	}
}
