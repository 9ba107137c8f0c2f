package op

import (
	"math"
	"slices"
	"strings"
	"testing"

	"lectionary/api"
)

var begin = api.Elem{}

func el(site, seq, i int) api.Elem { return api.Elem{Site: site, Seq: seq, I: i} }

func edit(site, seq int, after api.Elem, s string, gone ...api.Elem) api.Op {
	return api.Op{Site: site, Seq: seq, Kind: api.KindEdit, After: after, Text: s, Gone: gone}
}

func toggle(site, seq, of, num, gen int) api.Op {
	return api.Op{Site: site, Seq: seq, Kind: api.KindToggle, Of: of, Num: num, Gen: gen}
}

// rising is n elements of site 2, in order, that may be.
func rising(n int) []api.Elem {
	var l []api.Elem
	for k := range n {
		l = append(l, el(2, 1+k/api.MaxRunes, k%api.MaxRunes))
	}
	return l
}

// good are ops that may be, with what they write and what they need.
var good = []struct {
	o      api.Op
	writes int
	needs  []api.Elem
}{
	{edit(1, 1, begin, "a"), 1, nil},
	{edit(8, api.MaxNum, begin, "ab"), 2, nil},
	{edit(1, 1, begin, "aé\n"), 3, nil},
	{edit(1, 1, begin, strings.Repeat("x", api.MaxRunes)), api.MaxRunes, nil},
	{edit(1, 1, begin, strings.Repeat("\U0010ffff", api.MaxRunes)), api.MaxRunes, nil},
	{edit(1, 1, el(2, 1, 0), "a"), 1, []api.Elem{el(2, 1, 0)}},
	{edit(1, 1, el(2, 1, api.MaxRunes-1), "a"), 1, []api.Elem{el(2, 1, 0)}},
	{edit(1, 1, el(api.MaxSites, api.MaxNum, 5), "a"), 1, []api.Elem{el(api.MaxSites, api.MaxNum, 0)}},
	{edit(1, 2, el(1, 1, 3), "a"), 1, []api.Elem{el(1, 1, 0)}},
	{edit(1, 2, el(1, 3, 3), "a"), 1, []api.Elem{el(1, 3, 0)}}, // a later one of its own site: no row has it ahead, but the op may be
	{edit(1, 2, el(2, 2, 0), "a"), 1, []api.Elem{el(2, 2, 0)}},
	{edit(1, 1, begin, "", el(2, 1, 0)), 0, []api.Elem{el(2, 1, 0)}},
	{edit(1, 1, begin, "", el(2, 1, 0), el(2, 1, 1), el(2, 1, 11)), 0, []api.Elem{el(2, 1, 0)}},
	{edit(1, 1, begin, "", el(2, 1, 7), el(2, 2, 3), el(2, 10, 0), el(3, 1, 0)), 0,
		[]api.Elem{el(2, 1, 0), el(2, 2, 0), el(2, 10, 0), el(3, 1, 0)}},
	{edit(2, 2, begin, "", el(2, 1, 1), el(2, 3, 1), el(3, 2, 1)), 0, []api.Elem{el(2, 1, 0), el(2, 3, 0), el(3, 2, 0)}},
	{edit(1, 1, begin, "a", el(2, 1, 0)), 1, []api.Elem{el(2, 1, 0)}},
	// After ahead of, among, and behind the names of Gone.
	{edit(1, 1, el(2, 1, 9), "a", el(3, 1, 4), el(4, 1, 4)), 1, []api.Elem{el(2, 1, 0), el(3, 1, 0), el(4, 1, 0)}},
	{edit(1, 1, el(3, 2, 9), "a", el(3, 1, 4), el(3, 3, 4)), 1, []api.Elem{el(3, 1, 0), el(3, 2, 0), el(3, 3, 0)}},
	{edit(1, 1, el(5, 1, 9), "a", el(3, 1, 4), el(4, 1, 4)), 1, []api.Elem{el(3, 1, 0), el(4, 1, 0), el(5, 1, 0)}},
	{edit(1, 1, el(3, 1, 9), "a", el(3, 1, 4), el(4, 1, 4)), 1, []api.Elem{el(3, 1, 0), el(4, 1, 0)}},
	{edit(1, 1, el(4, 1, 4), "a", el(3, 1, 4), el(4, 1, 4)), 1, []api.Elem{el(3, 1, 0), el(4, 1, 0)}},
	{edit(1, 1, begin, "", rising(25)...), 0, []api.Elem{el(2, 1, 0), el(2, 2, 0), el(2, 3, 0)}},
	{api.Op{Site: 1, Seq: 1, Kind: api.KindEdit, Text: "a", Gone: []api.Elem{}}, 1, nil},
	{toggle(1, 1, 2, 1, 0), 0, []api.Elem{el(2, 1, 0)}},
	{toggle(1, 2, 1, 1, 3), 0, []api.Elem{el(1, 1, 0)}},
	{toggle(1, 1, 1, 2, 3), 0, []api.Elem{el(1, 2, 0)}},
	{toggle(2, 2, 1, 2, 3), 0, []api.Elem{el(1, 2, 0)}},
	{toggle(8, api.MaxNum, 7, api.MaxNum, api.MaxNum), 0, []api.Elem{el(7, api.MaxNum, 0)}},
	{api.Op{Site: 1, Seq: 1, Kind: api.KindToggle, Of: 2, Num: 1, Gone: []api.Elem{}}, 0, []api.Elem{el(2, 1, 0)}},
}

// beyond are numbers below from, and above to.
func beyond(from, to int) []int {
	return []int{math.MinInt, from - 2, from - 1, to + 1, to + 2, math.MaxInt}
}

// with is o, and one thing of it another one.
func with(o api.Op, do func(o *api.Op)) api.Op {
	do(&o)
	return o
}

// badNames are sites and numbers that are no name.
func badNames() [][2]int {
	l := [][2]int{{0, 0}}
	for _, n := range beyond(1, api.MaxSites) {
		l = append(l, [2]int{n, 1})
	}
	for _, n := range beyond(1, api.MaxNum) {
		l = append(l, [2]int{1, n})
	}
	return l
}

// badElems are elements that may not be.
func badElems() []api.Elem {
	l := []api.Elem{el(0, 0, 1), el(0, 0, -1), el(0, 1, 0), el(1, 0, 0)}
	for _, n := range badNames()[1:] {
		l = append(l, el(n[0], n[1], 0), el(n[0], n[1], 3))
	}
	for _, i := range beyond(0, api.MaxRunes-1) {
		l = append(l, el(1, 1, i))
	}
	return l
}

// badOps are ops that may not be, most of them but one thing away from one that may.
func badOps() []api.Op {
	l := []api.Op{
		{},
		edit(1, 1, begin, ""),
		edit(1, 1, el(2, 1, 0), ""),
		edit(1, 1, el(2, 1, 0), "", el(2, 1, 0)), // After without a Text
		edit(1, 1, el(1, 1, 0), "a"),             // behind itself
		edit(1, 1, el(1, 1, 5), "a"),
		edit(1, 1, begin, strings.Repeat("x", api.MaxRunes+1)),
		edit(1, 1, begin, strings.Repeat("\U0010ffff", api.MaxRunes+1)),
		edit(1, 1, begin, strings.Repeat("x", 1<<20)),
		edit(1, 1, begin, "", rising(api.MaxElems+1)...),
		edit(1, 1, begin, "a", rising(api.MaxElems+1)...),
		edit(1, 1, begin, "a", rising(1000)...),
		edit(1, 1, begin, "a", el(2, 1, 1), el(2, 1, 1)), // not rising
		edit(1, 1, begin, "a", el(2, 1, 1), el(2, 1, 0)),
		edit(1, 1, begin, "a", el(2, 2, 0), el(2, 1, 1)),
		edit(1, 1, begin, "a", el(3, 1, 0), el(2, 2, 1)),
		edit(1, 1, begin, "a", el(2, 1, 0), el(2, 1, 2), el(2, 1, 1)),
		toggle(1, 1, 1, 1, 0), // of itself
		toggle(8, api.MaxNum, 8, api.MaxNum, 0),
	}
	for _, s := range []string{"\x00", "\t", "\r", "\x7f", "\ufffd", "\xff", "\xc3", "\xed\xa0\x80"} {
		l = append(l, edit(1, 1, begin, s), edit(1, 1, begin, "a"+s), edit(1, 1, begin, s+"a", el(2, 1, 0)))
	}
	for _, e := range append(badElems(), el(1, 1, 0), el(1, 1, 11), begin) {
		l = append(l, edit(1, 1, begin, "", e), edit(1, 1, begin, "a", e), edit(1, 1, begin, "a", el(2, 1, 0), e), edit(1, 1, begin, "a", e, el(2, 1, 0)))
		if !isBegin(e) {
			l = append(l, edit(1, 1, e, "a"), edit(1, 1, e, "a", el(2, 1, 0)), edit(1, 1, e, "", el(2, 1, 0)))
		}
	}
	return append(l, badFields()...)
}

// badFields are ops of which one number or field is not of the kind.
func badFields() []api.Op {
	writes, takes, toggles := edit(3, 7, el(2, 1, 0), "a"), edit(3, 7, begin, "", el(2, 1, 0)), toggle(3, 7, 2, 1, 0)
	var l []api.Op
	for _, n := range badNames() {
		for _, o := range []api.Op{writes, takes, toggles} {
			l = append(l, with(o, func(o *api.Op) { o.Site, o.Seq = n[0], n[1] }))
		}
		l = append(l, with(toggles, func(o *api.Op) { o.Of, o.Num = n[0], n[1] }))
	}
	for _, k := range []int{math.MinInt, -1, api.KindNone, 3, math.MaxInt} {
		for _, o := range []api.Op{writes, takes, toggles} {
			l = append(l, with(o, func(o *api.Op) { o.Kind = k }))
		}
	}
	for _, n := range []int{math.MinInt, -1, 1, math.MaxInt} {
		for _, o := range []api.Op{writes, takes} {
			l = append(l, with(o, func(o *api.Op) { o.Of = n }), with(o, func(o *api.Op) { o.Num = n }), with(o, func(o *api.Op) { o.Gen = n }))
		}
	}
	for _, n := range beyond(0, api.MaxNum) {
		l = append(l, with(toggles, func(o *api.Op) { o.Gen = n }))
	}
	return append(l,
		with(writes, func(o *api.Op) { o.Kind = api.KindToggle }),
		with(takes, func(o *api.Op) { o.Kind = api.KindToggle }),
		with(toggles, func(o *api.Op) { o.Kind = api.KindEdit }),
		with(toggles, func(o *api.Op) { o.Text = "a" }),
		with(toggles, func(o *api.Op) { o.Gone = []api.Elem{el(2, 1, 0)} }),
		with(toggles, func(o *api.Op) { o.After = el(2, 1, 0) }),
		with(toggles, func(o *api.Op) { o.After = el(0, 0, 1) }),
		with(toggles, func(o *api.Op) { o.After = el(0, -1, 0) }),
		with(writes, func(o *api.Op) { o.Of, o.Num = 2, 1 }),
	)
}

// P4.1

func TestElemsThatMayBe(t *testing.T) {
	for _, e := range append(rising(40), begin, el(1, 1, 0), el(api.MaxSites, 1, 0), el(1, api.MaxNum, 0), el(1, 1, api.MaxRunes-1), el(api.MaxSites, api.MaxNum, api.MaxRunes-1)) {
		if f := Elem(e); f != api.OK {
			t.Errorf("Elem(%v) = %v", e, f)
		}
	}
}

func TestElemsThatMayNotBe(t *testing.T) {
	for _, e := range badElems() {
		if f := Elem(e); f != api.ErrForm {
			t.Errorf("Elem(%v) = %v; want ErrForm", e, f)
		}
	}
}

func TestLessIsBySiteSeqI(t *testing.T) {
	// Less is asked of any elements, also of those that may not be.
	steps := []int{math.MinInt, -1, 0, 1, 2, 11, api.MaxNum, math.MaxInt}
	var l []api.Elem
	for _, site := range steps {
		for _, seq := range steps {
			for _, i := range steps {
				l = append(l, el(site, seq, i))
			}
		}
	}
	for i, a := range l {
		for k, b := range l {
			if Less(a, b) != (i < k) {
				t.Fatalf("Less(%v, %v) = %v", a, b, i >= k)
			}
		}
	}
}

func TestOpsThatMayBe(t *testing.T) {
	for _, c := range good {
		if e := Check(c.o); e != api.OK {
			t.Errorf("Check(%v) = %v", c.o, e)
		}
		n, e := Needs(c.o)
		if !slices.Equal(n, c.needs) || e != api.OK {
			t.Errorf("Needs(%v) = %v, %v; want %v", c.o, n, e, c.needs)
		}
		l, e := Elems(c.o)
		if len(l) != c.writes || e != api.OK {
			t.Errorf("Elems(%v) = %v, %v; want %d", c.o, l, e, c.writes)
		}
		for i, x := range l {
			if x != el(c.o.Site, c.o.Seq, i) {
				t.Errorf("Elems(%v): the %d-th is %v", c.o, i, x)
			}
		}
	}
}

func TestOpsThatMayNotBe(t *testing.T) {
	for _, o := range badOps() {
		if e := Check(o); e != api.ErrForm {
			t.Errorf("Check(%.99v) = %v; want ErrForm", o, e)
		}
		if l, e := Elems(o); len(l) != 0 || e != api.ErrForm {
			t.Errorf("Elems(%.99v) = %v, %v; want ErrForm alone", o, l, e)
		}
		if l, e := Needs(o); len(l) != 0 || e != api.ErrForm {
			t.Errorf("Needs(%.99v) = %v, %v; want ErrForm alone", o, l, e)
		}
	}
}

func TestMostGone(t *testing.T) {
	for _, s := range []string{"", "a"} {
		o := edit(1, 1, begin, s, rising(api.MaxElems)...)
		var want []api.Elem
		for seq := 1; seq <= (api.MaxElems+api.MaxRunes-1)/api.MaxRunes; seq++ {
			want = append(want, el(2, seq, 0))
		}
		if n, e := Needs(o); !slices.Equal(n, want) || e != api.OK {
			t.Errorf("Text %q: %v, %v; want %v", s, n, e, want)
		}
	}
}

// P4.2

func TestOwnTellsEach(t *testing.T) {
	for _, c := range good {
		for n := range c.writes {
			if x, e := Own(c.o, n); x != el(c.o.Site, c.o.Seq, n) || e != api.OK {
				t.Errorf("Own(%v, %d) = %v, %v", c.o, n, x, e)
			}
		}
		for _, n := range beyond(0, c.writes-1) {
			if x, e := Own(c.o, n); x != begin || e != api.ErrLimit {
				t.Errorf("Own(%v, %d) = %v, %v; want ErrLimit alone", c.o, n, x, e)
			}
		}
	}
}

func TestOwnCountsRunes(t *testing.T) {
	o := edit(1, 1, begin, "éß") // two runes in four bytes
	if x, e := Own(o, 1); x != el(1, 1, 1) || e != api.OK {
		t.Errorf("the last one: %v, %v", x, e)
	}
	if x, e := Own(o, 2); x != begin || e != api.ErrLimit {
		t.Errorf("one by bytes: %v, %v", x, e)
	}
}

// An op that may not be is told ahead of a number that may not.
func TestOwnOfOpsThatMayNotBe(t *testing.T) {
	for _, o := range badOps() {
		for _, n := range []int{0, -1, 1, 99, math.MinInt, math.MaxInt} {
			if x, e := Own(o, n); x != begin || e != api.ErrForm {
				t.Errorf("Own(%.99v, %d) = %v, %v; want ErrForm alone", o, n, x, e)
			}
		}
	}
}

// R2

func TestGoneIsNotChanged(t *testing.T) {
	room := append(make([]api.Elem, 0, 9), el(2, 1, 3), el(2, 1, 4), el(4, 1, 5))
	o := edit(1, 1, el(3, 1, 2), "ab", room...)
	for range 2 {
		Check(o)
		Elems(o)
		Needs(o)
		Own(o, 1)
	}
	if !slices.Equal(room[:4], []api.Elem{el(2, 1, 3), el(2, 1, 4), el(4, 1, 5), begin}) {
		t.Errorf("%v", room[:4])
	}
}

func TestAnswersAreNotShared(t *testing.T) {
	o := edit(1, 1, el(3, 1, 2), "ab", el(2, 1, 0), el(4, 1, 0))
	for _, call := range []func(api.Op) ([]api.Elem, api.Errno){Elems, Needs} {
		first, _ := call(o)
		second, _ := call(o)
		want := slices.Clone(second)
		for i := range first[:cap(first)] {
			first[:cap(first)][i] = el(8, 8, 8)
		}
		third, _ := call(o)
		if !slices.Equal(second, want) || !slices.Equal(third, want) {
			t.Errorf("%v, %v; want %v", second, third, want)
		}
	}
	if !slices.Equal(o.Gone, []api.Elem{el(2, 1, 0), el(4, 1, 0)}) {
		t.Errorf("the op's Gone: %v", o.Gone)
	}
}

// P4.3

// few are all ops of a few small numbers, those that may not be among them.
func few() []api.Op {
	var names []api.Elem
	for site := range 3 {
		for seq := range 3 {
			names = append(names, el(site, seq, 0), el(site, seq, 1))
		}
	}
	var l []api.Op
	for _, own := range names {
		for _, a := range names {
			l = append(l, toggle(own.Site, own.Seq, a.Site, a.Seq, a.I), edit(own.Site, own.Seq, a, "a"))
			for _, b := range names {
				l = append(l, edit(own.Site, own.Seq, a, "a", b), edit(own.Site, own.Seq, begin, "", a, b))
			}
		}
	}
	return l
}

func TestNoOpNeedsItself(t *testing.T) {
	count := 0
	for _, o := range few() {
		l, e := Needs(o)
		if e != api.OK {
			continue
		}
		count++
		if slices.Contains(l, el(o.Site, o.Seq, 0)) {
			t.Errorf("Needs(%v) = %v", o, l)
		}
		if !slices.IsSortedFunc(l, compare) || len(slices.Compact(slices.Clone(l))) != len(l) {
			t.Errorf("Needs(%v) = %v: not rising", o, l)
		}
		for _, x := range l {
			if x.I != 0 || Elem(x) != api.OK || x == begin {
				t.Errorf("Needs(%v) has %v", o, x)
			}
		}
	}
	if count == 0 {
		t.Errorf("no op may be")
	}
}
