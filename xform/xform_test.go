package xform

import (
	"math"
	"slices"
	"strings"
	"testing"

	"lectionary/api"
)

func in(site, at int, r rune) api.Prim {
	return api.Prim{Kind: api.PrimIn, At: at, Rune: r, Site: site}
}

func out(site, at int, r rune) api.Prim {
	return api.Prim{Kind: api.PrimOut, At: at, Rune: r, Site: site}
}

// none is the step that does nothing.
var none = api.Prim{}

func steps(l ...api.Prim) []api.Prim { return l }

func plus(l []api.Prim, more ...api.Prim) []api.Prim { return slices.Concat(l, more) }

// full is a plain text that has no room, of letters that stand apart from their neighbours.
var full = []rune(strings.Repeat("abé\nd", api.MaxPlain/5))

// goodSteps are steps that may be, at both ends of each limit.
func goodSteps() []api.Prim {
	l := steps(none)
	for _, at := range []int{0, 1, 30, api.MaxPlain - 1, api.MaxPlain} {
		for _, site := range []int{1, 2, api.MaxSites} {
			for _, r := range []rune{10, 32, 'a', 126, 128, 0xd7ff, 0xe000, 0xfffc, 0xfffe, 0x10ffff} {
				l = append(l, in(site, at, r), out(site, at, r))
			}
		}
	}
	return l
}

// badSteps are steps that are one thing away from one that may be.
func badSteps() []api.Prim {
	l := steps(api.Prim{At: 1}, api.Prim{At: -1}, api.Prim{Rune: 'a'}, api.Prim{Rune: -1}, api.Prim{Site: 1}, api.Prim{Site: -1}, api.Prim{At: 1, Rune: 'a', Site: 1})
	for _, kind := range []int{math.MinInt, -1, 3, 4, 1 << 32, 1<<32 + 1, math.MaxInt} {
		l = append(l, api.Prim{Kind: kind}, api.Prim{Kind: kind, At: 1, Rune: 'a', Site: 1})
	}
	for _, at := range []int{math.MinInt, -1, api.MaxPlain + 1, api.MaxPlain + 2, 1 << 32, math.MaxInt} {
		l = append(l, in(1, at, 'a'), out(1, at, 'a'))
	}
	for _, site := range []int{math.MinInt, -1, 0, api.MaxSites + 1, 1<<32 + 1, math.MaxInt} {
		l = append(l, in(site, 0, 'a'), out(site, 0, 'a'))
	}
	for _, r := range []rune{math.MinInt32, -1, 0, 9, 11, 31, 127, 0xd800, 0xdfff, 0xfffd, 0x110000, math.MaxInt32} {
		l = append(l, in(1, 0, r), out(1, 0, r))
	}
	return l
}

// badTexts are no plain texts.
func badTexts() [][]rune {
	l := [][]rune{append(slices.Clone(full), 'a'), slices.Repeat([]rune{'a'}, 100000)}
	for _, r := range []rune{-1, 0, 9, 127, 0xd800, 0xfffd, 0x110000} {
		l = append(l, []rune{r}, []rune{r, 'a'}, []rune{'a', r}, []rune{'a', r, 'b'})
		for _, at := range []int{0, 30, api.MaxPlain - 1} {
			s := slices.Clone(full)
			s[at] = r
			l = append(l, s)
		}
	}
	return l
}

// fitting are the steps of a site that fit a text: out of each place, and into each where there is room.
func fitting(site int, l []rune, comes ...rune) []api.Prim {
	all := steps(none)
	for at := range len(l) + 1 {
		if at < len(l) {
			all = append(all, out(site, at, l[at]))
		}
		for _, r := range comes {
			if len(l) < api.MaxPlain {
				all = append(all, in(site, at, r))
			}
		}
	}
	return all
}

// dice are numbers that look like any, and are the same each time.
type dice uint64

func (d *dice) below(n int) int {
	*d = *d*6364136223846793005 + 1442695040888963407
	return int(*d>>33) % n
}

func (d *dice) text(n int) []rune {
	var l []rune
	for range n {
		l = append(l, []rune("abé\nd")[d.below(5)])
	}
	return l
}

// row is a row of n steps of the sites, each of which fits what the ones ahead leave of the text.
func (d *dice) row(n int, text []rune, sites ...int) []api.Prim {
	var l []api.Prim
	for range n {
		site := sites[d.below(len(sites))]
		may := fitting(site, text, []rune("xyzß")[d.below(4)])
		p := may[d.below(len(may))]
		l = append(l, p)
		text = behind(text, p)
	}
	return l
}

// anyRow is a row of n steps that may be, whatever they fit.
func (d *dice) anyRow(n int) []api.Prim {
	var l []api.Prim
	for range n {
		site, at := 1+d.below(3), d.below(7)
		if d.below(4) == 0 {
			at = api.MaxPlain - at
		}
		l = append(l, []api.Prim{none, in(site, at, 'a'), in(site, at, 'b'), out(site, at, 'a'), out(site, at, 'b')}[d.below(5)])
	}
	return l
}

// behind tells the text behind steps that fit it a second way: by its two parts.
func behind(l []rune, s ...api.Prim) []rune {
	now := string(l)
	for _, p := range s {
		r := []rune(now)
		switch p.Kind {
		case api.PrimIn:
			now = string(r[:p.At]) + string(p.Rune) + string(r[p.At:])
		case api.PrimOut:
			now = string(r[:p.At]) + string(r[p.At+1:])
		}
	}
	return []rune(now)
}

// pastOnALine tells a behind b a second way: b is done on a line of places on which a's is marked, and the mark is looked up.
func pastOnALine(a, b api.Prim) api.Prim {
	const mark, come = -1, -2
	var line []int
	for place := range a.At + b.At + 2 {
		marked := a.Kind == api.PrimIn && a.At == place
		if marked && a.Site <= b.Site {
			line = append(line, mark)
		}
		if b.Kind == api.PrimIn && b.At == place {
			line = append(line, come)
		}
		if marked && a.Site > b.Site {
			line = append(line, mark)
		}
		if b.Kind != api.PrimOut || b.At != place {
			line = append(line, place)
		}
	}
	switch a.Kind {
	case api.PrimIn:
		a.At = slices.Index(line, mark)
	case api.PrimOut:
		a.At = slices.Index(line, a.At)
	}
	if a.At < 0 {
		return none
	}
	return a
}

// bothOnALine tells Both a second way: a step of a that is behind n steps of the others, by those steps as they are behind the steps of a ahead of it; likewise of b.
func bothOnALine(a, b []api.Prim) (x, y []api.Prim) {
	// as[i][n] is step i of a behind n steps of b; bs[i][n] is step n of b behind i steps of a.
	as, bs := make([][]api.Prim, len(a)), [][]api.Prim{b}
	for i := range a {
		as[i] = steps(a[i])
		var next []api.Prim
		for n := range b {
			as[i] = append(as[i], pastOnALine(as[i][n], bs[i][n]))
			next = append(next, pastOnALine(bs[i][n], as[i][n]))
		}
		bs = append(bs, next)
		x = append(x, as[i][len(b)])
	}
	return x, bs[len(a)]
}

// P9.1

func TestStepsThatMayBe(t *testing.T) {
	for _, p := range goodSteps() {
		if e := Check(p); e != api.OK {
			t.Errorf("Check(%v) = %v", p, e)
		}
	}
	for _, p := range badSteps() {
		if e := Check(p); e != api.ErrForm {
			t.Errorf("Check(%v) = %v; want ErrForm", p, e)
		}
	}
	for site := -3; site < api.MaxSites+4; site++ {
		for at := -3; at < api.MaxPlain+4; at++ {
			want := api.ErrForm
			if site >= 1 && site <= 8 && at >= 0 && at <= 60 {
				want = api.OK
			}
			if e, f := Check(in(site, at, 'a')), Check(out(site, at, 10)); e != want || f != want {
				t.Errorf("site %d, at %d: %v, %v; want %v", site, at, e, f, want)
			}
		}
	}
}

// wantText asks Apply, and Row of that one step.
func wantText(t *testing.T, l []rune, p api.Prim, want []rune, wantErr api.Errno) {
	t.Helper()
	if s, e := Apply(l, p); !slices.Equal(s, want) || e != wantErr {
		t.Errorf("Apply(%q, %v) = %q, %v; want %q, %v", l, p, s, e, want, wantErr)
	}
	if s, e := Row(l, p); !slices.Equal(s, want) || e != wantErr {
		t.Errorf("Row(%q, %v) = %q, %v; want %q, %v", l, p, s, e, want, wantErr)
	}
}

func TestApplyTellsTheText(t *testing.T) {
	for _, c := range []struct {
		s    string
		p    api.Prim
		want string
	}{
		{"", none, ""},
		{"aé", none, "aé"},
		{"", in(1, 0, 'x'), "x"},
		{"ab", in(1, 0, 'x'), "xab"},
		{"ab", in(8, 1, 10), "a\nb"},
		{"ab", in(3, 2, 'é'), "abé"},
		{"éß", in(1, 1, 0x10ffff), "é\U0010ffffß"},
		{"aa", in(1, 1, 'a'), "aaa"},
		{"a", out(1, 0, 'a'), ""},
		{"abc", out(1, 0, 'a'), "bc"},
		{"abc", out(8, 1, 'b'), "ac"},
		{"aé\n", out(2, 2, 10), "aé"},
		{"aéb", out(2, 1, 'é'), "ab"},
	} {
		wantText(t, []rune(c.s), c.p, []rune(c.want), api.OK)
	}
}

func TestApplyAtEachPlace(t *testing.T) {
	for n := range len(full) + 1 {
		for _, p := range fitting(1+n%api.MaxSites, full[:n], 'x', 'é') {
			wantText(t, full[:n], p, behind(full[:n], p), api.OK)
		}
	}
}

func TestStepsThatDoNotFit(t *testing.T) {
	for n := range len(full) + 1 {
		for at := range api.MaxPlain + 1 {
			if at > n || n == len(full) {
				wantText(t, full[:n], in(1, at, 'x'), nil, api.ErrState)
			}
			for _, r := range []rune("abé\nx") {
				if at >= n || full[at] != r {
					wantText(t, full[:n], out(1, at, r), nil, api.ErrState)
				}
			}
		}
	}
	// One rune that goes makes room.
	if s, e := Row(full, out(1, 59, 'd'), in(2, 59, 'x')); e != api.OK || s[59] != 'x' || len(s) != 60 {
		t.Errorf("a rune instead of another one: %q, %v", s, e)
	}
	if s, e := Row(full, in(2, 59, 'x'), out(1, 59, 'x')); len(s) != 0 || e != api.ErrState {
		t.Errorf("one rune too many for a while: %q, %v; want ErrState alone", s, e)
	}
}

func TestApplyOfWhatMayNotBe(t *testing.T) {
	for _, s := range badTexts() {
		for _, p := range steps(none, in(1, 0, 'x'), in(1, 60, 'x'), out(1, 0, 'a'), out(1, 60, 'x'), out(1, 0, 9), in(0, 1, 'a')) {
			wantText(t, s, p, nil, api.ErrForm)
		}
		if l, e := Row(s); len(l) != 0 || e != api.ErrForm {
			t.Errorf("Row(%q) = %q, %v; want ErrForm alone", s, l, e)
		}
	}
	for _, s := range []string{"", "a", "ab\nc", string(full)} {
		for _, p := range badSteps() {
			wantText(t, []rune(s), p, nil, api.ErrForm)
		}
	}
}

func TestBackTellsTheStep(t *testing.T) {
	for _, c := range []struct{ p, want api.Prim }{
		{none, none},
		{in(1, 0, 'a'), out(1, 0, 'a')},
		{out(1, 0, 'a'), in(1, 0, 'a')},
		{in(8, 60, 10), out(8, 60, 10)},
		{out(3, 60, 'é'), in(3, 60, 'é')},
	} {
		if p, e := Back(c.p); p != c.want || e != api.OK {
			t.Errorf("Back(%v) = %v, %v; want %v", c.p, p, e, c.want)
		}
	}
	for _, p := range goodSteps() {
		back, e := Back(p)
		again, f := Back(back)
		if again != p || (back == p) != (p == none) || e != api.OK || f != api.OK {
			t.Errorf("Back(%v) = %v, %v; Back of it = %v, %v", p, back, e, again, f)
		}
	}
	for _, p := range badSteps() {
		if back, e := Back(p); back != none || e != api.ErrForm {
			t.Errorf("Back(%v) = %v, %v; want ErrForm alone", p, back, e)
		}
	}
}

func TestBackUndoes(t *testing.T) {
	for n := range len(full) + 1 {
		for _, p := range fitting(1+n%api.MaxSites, full[:n], 'x', 'a') {
			back, _ := Back(p)
			if s, e := Row(full[:n], p, back); !slices.Equal(s, full[:n]) || e != api.OK {
				t.Errorf("%q behind %v and %v: %q, %v", full[:n], p, back, s, e)
			}
		}
	}
}

// P9.2

func wantPast(t *testing.T, a, b, want api.Prim) {
	t.Helper()
	if p, e := Past(a, b); p != want || e != api.OK {
		t.Errorf("Past(%v, %v) = %v, %v; want %v", a, b, p, e, want)
	}
	if p, e := PastAll(a, b); p != want || e != api.OK {
		t.Errorf("PastAll(%v, %v) = %v, %v; want %v", a, b, p, e, want)
	}
}

func TestPastTellsTheStep(t *testing.T) {
	for _, c := range []struct{ a, b, want api.Prim }{
		{none, none, none},
		{none, in(1, 0, 'a'), none},
		{none, out(1, 0, 'a'), none},
		{in(1, 2, 'a'), none, in(1, 2, 'a')},
		{out(1, 2, 'a'), none, out(1, 2, 'a')},
		{out(1, 2, 'a'), in(2, 1, 'b'), out(1, 3, 'a')},
		{out(1, 2, 'a'), in(2, 2, 'b'), out(1, 3, 'a')},
		{out(2, 2, 'a'), in(2, 2, 'b'), out(2, 3, 'a')},
		{out(3, 2, 'a'), in(2, 2, 'b'), out(3, 3, 'a')},
		{out(1, 2, 'a'), in(2, 3, 'b'), out(1, 2, 'a')},
		{in(1, 2, 'a'), in(2, 1, 'b'), in(1, 3, 'a')},
		{in(1, 2, 'a'), in(2, 3, 'b'), in(1, 2, 'a')},
		{in(3, 2, 'a'), in(2, 3, 'b'), in(3, 2, 'a')},
		{in(1, 2, 'a'), in(2, 2, 'b'), in(1, 2, 'a')},
		{in(2, 2, 'a'), in(2, 2, 'b'), in(2, 2, 'a')},
		{in(2, 2, 'a'), in(2, 2, 'a'), in(2, 2, 'a')},
		{in(3, 2, 'a'), in(2, 2, 'b'), in(3, 3, 'a')},
		{in(3, 2, 'a'), in(2, 2, 'a'), in(3, 3, 'a')},
		{in(2, 2, 'a'), out(1, 0, 'b'), in(2, 1, 'a')}, // the document's example
		{in(1, 2, 'a'), out(2, 1, 'b'), in(1, 1, 'a')},
		{in(1, 2, 'a'), out(2, 2, 'b'), in(1, 2, 'a')},
		{in(3, 2, 'a'), out(2, 2, 'b'), in(3, 2, 'a')},
		{in(1, 2, 'a'), out(2, 3, 'b'), in(1, 2, 'a')},
		{out(1, 2, 'a'), out(2, 1, 'b'), out(1, 1, 'a')},
		{out(1, 2, 'a'), out(2, 3, 'b'), out(1, 2, 'a')},
		{out(1, 2, 'a'), out(2, 2, 'a'), none},
		{out(1, 2, 'a'), out(1, 2, 'a'), none},
		{out(1, 2, 'a'), out(2, 2, 'b'), none}, // they can't fit one text: the words are the same
		{out(1, 1, 'a'), out(2, 0, 'a'), out(1, 0, 'a')},
		{in(1, 60, 'a'), in(2, 59, 'b'), in(1, 61, 'a')},
		{in(2, 60, 'a'), in(1, 60, 'b'), in(2, 61, 'a')},
		{out(1, 60, 'a'), in(2, 60, 'b'), out(1, 61, 'a')},
	} {
		wantPast(t, c.a, c.b, c.want)
	}
}

func TestPastAtEachPlace(t *testing.T) {
	both := func(site, at int) []api.Prim { return steps(none, in(site, at, 'a'), out(site, at, 'a')) }
	for _, sites := range [][2]int{{1, 2}, {2, 1}, {4, 4}, {1, 8}, {8, 7}} {
		for at := range api.MaxPlain + 1 {
			for other := range api.MaxPlain + 1 {
				for _, a := range both(sites[0], at) {
					for _, b := range both(sites[1], other) {
						wantPast(t, a, b, pastOnALine(a, b))
					}
				}
			}
		}
	}
}

func TestPastOfAllSites(t *testing.T) {
	for site := 1; site <= api.MaxSites; site++ {
		for other := 1; other <= api.MaxSites; other++ {
			want := in(site, 5, 'a')
			if site > other {
				want.At = 6
			}
			wantPast(t, in(site, 5, 'a'), in(other, 5, 'b'), want)
			wantPast(t, out(site, 5, 'a'), in(other, 5, 'b'), out(site, 6, 'a'))
			wantPast(t, in(site, 5, 'a'), out(other, 5, 'b'), in(site, 5, 'a'))
		}
	}
}

func TestPastOfWhatMayNotBe(t *testing.T) {
	for _, bad := range badSteps() {
		for _, good := range steps(none, in(1, 0, 'a'), out(1, 0, 'a'), in(8, 60, 'a'), bad) {
			for _, c := range [][2]api.Prim{{good, bad}, {bad, good}} {
				if p, e := Past(c[0], c[1]); p != none || e != api.ErrForm {
					t.Errorf("Past(%v, %v) = %v, %v; want ErrForm alone", c[0], c[1], p, e)
				}
			}
		}
	}
}

func TestPastAllTellsTheStep(t *testing.T) {
	for _, c := range []struct {
		a    api.Prim
		l    []api.Prim
		want api.Prim
	}{
		{none, nil, none},
		{in(1, 2, 'a'), nil, in(1, 2, 'a')},
		{out(1, 60, 'a'), steps(), out(1, 60, 'a')},
		{in(2, 2, 'a'), steps(in(1, 2, 'x'), in(1, 3, 'y')), in(2, 4, 'a')},
		{in(2, 2, 'a'), steps(in(1, 3, 'x'), in(1, 2, 'y')), in(2, 3, 'a')},
		{in(2, 2, 'a'), steps(none, out(1, 2, 'x'), none, out(1, 1, 'x')), in(2, 1, 'a')},
		{out(1, 2, 'a'), steps(out(2, 1, 'b'), out(2, 1, 'a'), in(2, 0, 'c')), none},
		{out(1, 2, 'a'), steps(out(2, 2, 'a'), in(2, 2, 'a')), none},
		{in(1, 60, 'a'), steps(in(2, 0, 'b'), in(2, 60, 'b'), out(2, 60, 'b'), in(2, 0, 'c')), in(1, 62, 'a')},
	} {
		if p, e := PastAll(c.a, c.l...); p != c.want || e != api.OK {
			t.Errorf("PastAll(%v, %v) = %v, %v; want %v", c.a, c.l, p, e, c.want)
		}
	}
	// Far beyond MaxPlain it still goes on.
	many := slices.Repeat(steps(in(1, 0, 'x'), in(2, 60, 'y')), 500)
	if p, e := PastAll(out(3, 60, 'a'), many...); p != out(3, 1060, 'a') || e != api.OK {
		t.Errorf("past 1000 steps: %v, %v", p, e)
	}
}

func TestPastAllOfMadeUpRows(t *testing.T) {
	d := dice(1)
	for range 20000 {
		a, l := d.anyRow(1)[0], d.anyRow(d.below(12))
		want := a
		for _, b := range l {
			want = pastOnALine(want, b)
		}
		if p, e := PastAll(a, l...); p != want || e != api.OK {
			t.Fatalf("PastAll(%v, %v) = %v, %v; want %v", a, l, p, e, want)
		}
	}
}

func TestPastAllOfWhatMayNotBe(t *testing.T) {
	good := steps(in(1, 0, 'a'), none, out(2, 3, 'b'))
	for _, bad := range badSteps() {
		if p, e := PastAll(bad); p != none || e != api.ErrForm {
			t.Errorf("PastAll(%v) = %v, %v; want ErrForm alone", bad, p, e)
		}
		for at := range len(good) + 1 {
			l := slices.Insert(slices.Clone(good), at, bad)
			for _, a := range steps(none, in(1, 0, 'a'), out(2, 0, 'a')) {
				if p, e := PastAll(a, l...); p != none || e != api.ErrForm {
					t.Errorf("PastAll(%v, %v) = %v, %v; want ErrForm alone", a, l, p, e)
				}
			}
			if p, e := PastAll(bad, good[:at]...); p != none || e != api.ErrForm {
				t.Errorf("PastAll(%v, %v) = %v, %v; want ErrForm alone", bad, good[:at], p, e)
			}
		}
	}
}

func wantBoth(t *testing.T, a, b, wantX, wantY []api.Prim) {
	t.Helper()
	if x, y, e := Both(a, b); !slices.Equal(x, wantX) || !slices.Equal(y, wantY) || e != api.OK {
		t.Errorf("Both(%v, %v) = %v, %v, %v; want %v, %v", a, b, x, y, e, wantX, wantY)
	}
}

func TestBothTellsTheSteps(t *testing.T) {
	a, b := steps(in(1, 1, 'x'), in(1, 2, 'y')), steps(in(2, 1, 'p'), in(2, 2, 'q'))
	wantBoth(t, nil, nil, nil, nil)
	wantBoth(t, a, nil, a, nil)
	wantBoth(t, nil, b, nil, b)
	wantBoth(t, a, steps(none), a, steps(none))
	wantBoth(t, a, b, a, steps(in(2, 3, 'p'), in(2, 4, 'q')))
	wantBoth(t, b, a, steps(in(2, 3, 'p'), in(2, 4, 'q')), a)
	// The first of a takes what the first of b took; the second of b is not behind it then.
	wantBoth(t, steps(out(1, 0, 'a'), in(1, 0, 'x')), steps(out(2, 0, 'a'), in(2, 0, 'y')), steps(none, in(1, 0, 'x')), steps(none, in(2, 1, 'y')))
	// What b wrote and took away again leaves a where it was.
	wantBoth(t, steps(out(1, 2, 'c')), steps(in(2, 0, 'x'), out(2, 0, 'x')), steps(out(1, 2, 'c')), steps(in(2, 0, 'x'), out(2, 0, 'x')))
	// Each step of b goes past a as that is behind the ones of b ahead: out at 2 is out at 1 where the second of b meets it.
	wantBoth(t, steps(out(1, 2, 'c')), steps(out(2, 0, 'a'), out(2, 1, 'c')), steps(none), steps(out(2, 0, 'a'), none))
	wantBoth(t, steps(out(1, 0, 'a'), out(1, 1, 'c')), steps(out(2, 2, 'c')), steps(out(1, 0, 'a'), none), steps(none))
	wantBoth(t, steps(in(1, 60, 'x'), out(1, 60, 'z')), steps(in(2, 0, 'y'), in(2, 60, 'y')), steps(in(1, 62, 'x'), out(1, 62, 'z')), steps(in(2, 0, 'y'), in(2, 60, 'y')))
}

func TestBothOfMadeUpRows(t *testing.T) {
	d := dice(2)
	for range 4000 {
		a, b := d.anyRow(d.below(21)), d.anyRow(d.below(21))
		x, y := bothOnALine(a, b)
		wantBoth(t, a, b, x, y)
		wantBoth(t, b, a, y, x)
	}
}

func TestBothOfOneStepIsPastAll(t *testing.T) {
	d := dice(3)
	for range 2000 {
		a, l := d.anyRow(1)[0], d.anyRow(d.below(21))
		want, _ := PastAll(a, l...)
		if x, _, e := Both(steps(a), l); len(x) != 1 || x[0] != want || e != api.OK {
			t.Errorf("Both(%v, %v) = %v, %v; want %v", a, l, x, e, want)
		}
		if _, y, e := Both(l, steps(a)); len(y) != 1 || y[0] != want || e != api.OK {
			t.Errorf("Both(%v, %v) = .., %v, %v; want %v", l, a, y, e, want)
		}
	}
}

func TestBothOfWhatMayNotBe(t *testing.T) {
	want := func(a, b []api.Prim) {
		t.Helper()
		if x, y, e := Both(a, b); len(x) != 0 || len(y) != 0 || e != api.ErrForm {
			t.Errorf("Both(%v, %v) = %v, %v, %v; want ErrForm alone", a, b, x, y, e)
		}
	}
	good := steps(in(1, 0, 'a'), none, out(2, 3, 'b'))
	for _, bad := range badSteps() {
		for at := range len(good) + 1 {
			l := slices.Insert(slices.Clone(good), at, bad)
			want(l, nil)
			want(nil, l)
			want(l, good)
			want(good, l)
		}
	}
	for _, p := range steps(none, in(1, 0, 'a'), out(1, 0, 'a')) {
		twenty := slices.Repeat(steps(p), 20)
		if x, y, e := Both(twenty, twenty); len(x) != 20 || len(y) != 20 || e != api.OK {
			t.Errorf("Both of 20 steps: %v, %v, %v", x, y, e)
		}
		for _, l := range [][]api.Prim{plus(twenty, p), slices.Repeat(twenty, 1000)} {
			want(l, nil)
			want(nil, l)
			want(l, twenty)
			want(twenty, l)
		}
	}
}

// P9.3

func TestRowTellsTheText(t *testing.T) {
	for _, c := range []struct {
		s    string
		l    []api.Prim
		want string
		e    api.Errno
	}{
		{"", nil, "", api.OK},
		{"aé", nil, "aé", api.OK},
		{"aé", steps(none, none), "aé", api.OK},
		{"", steps(in(1, 0, 'b'), in(2, 0, 'a'), in(3, 2, 'é')), "abé", api.OK},
		{"abc", steps(out(1, 0, 'a'), out(1, 0, 'b'), out(1, 0, 'c')), "", api.OK},
		{"abc", steps(out(1, 1, 'b'), in(2, 1, 'x'), out(3, 1, 'x'), in(1, 2, 'y')), "acy", api.OK},
		{"abc", steps(out(1, 2, 'c'), out(1, 2, 'c')), "", api.ErrState}, // it fits the text, not what is left
		{"abc", steps(out(1, 0, 'a'), in(1, 3, 'x')), "", api.ErrState},
		{"abc", steps(in(1, 3, 'x'), in(1, 4, 'y')), "abcxy", api.OK}, // it fits what is left, not the text
		{"abc", steps(out(1, 1, 'a'), none), "", api.ErrState},
		{"abc", steps(none, in(1, 4, 'a'), out(1, 0, 'a')), "", api.ErrState},
		{"abc", steps(in(1, 4, 'x'), in(1, 61, 'x')), "", api.ErrForm}, // a step that may not be, behind one that doesn't fit
		{"abc", steps(in(1, 0, 'x'), api.Prim{At: 1}), "", api.ErrForm},
		{"a\tc", steps(in(1, 9, 'x')), "", api.ErrForm},
	} {
		if s, e := Row([]rune(c.s), c.l...); string(s) != c.want || e != c.e {
			t.Errorf("Row(%q, %v) = %q, %v; want %q, %v", c.s, c.l, s, e, c.want, c.e)
		}
	}
}

func TestRowOfMadeUpSteps(t *testing.T) {
	d := dice(4)
	for range 1000 {
		s := d.text(d.below(api.MaxPlain + 1))
		l := d.row(d.below(40), s, 1, 2, 8)
		if got, e := Row(s, l...); !slices.Equal(got, behind(s, l...)) || e != api.OK {
			t.Fatalf("Row(%q, %v) = %q, %v", s, l, got, e)
		}
		at := d.below(len(l) + 1)
		for _, bad := range []struct {
			p api.Prim
			e api.Errno
		}{{out(1, 60, 'q'), api.ErrState}, {out(1, 61, 'q'), api.ErrForm}} {
			if got, e := Row(s, slices.Insert(slices.Clone(l), at, bad.p)...); len(got) != 0 || e != bad.e {
				t.Fatalf("Row(%q, ..) with %v at %d of %d: %q, %v; want %v alone", s, bad.p, at, len(l), got, e, bad.e)
			}
		}
	}
}

func TestRowOfManySteps(t *testing.T) {
	var up, down []api.Prim
	for at, r := range full {
		up = append(up, in(1, at, r))
		down = append(down, out(2, len(full)-1-at, full[len(full)-1-at]))
	}
	if s, e := Row(nil, up...); !slices.Equal(s, full) || e != api.OK {
		t.Errorf("up to MaxPlain: %q, %v", s, e)
	}
	if s, e := Row(full, down...); len(s) != 0 || e != api.OK {
		t.Errorf("down to none: %q, %v", s, e)
	}
	if s, e := Row(nil, plus(up, in(1, 0, 'x'))...); len(s) != 0 || e != api.ErrState {
		t.Errorf("a rune beyond MaxPlain: %q, %v; want ErrState alone", s, e)
	}
	if s, e := Row(full, plus(down, out(1, 0, 'a'))...); len(s) != 0 || e != api.ErrState {
		t.Errorf("out of no text: %q, %v; want ErrState alone", s, e)
	}
	if s, e := Row(nil, slices.Repeat(plus(up, down...), 100)...); len(s) != 0 || e != api.OK {
		t.Errorf("up and down: %q, %v", s, e)
	}
}

// P9.4

// wantMeet asks that a, then b past a, is as b, then a past b.
func wantMeet(t *testing.T, l []rune, a, b api.Prim) {
	t.Helper()
	x, e := Past(a, b)
	y, f := Past(b, a)
	if e != api.OK || f != api.OK {
		t.Errorf("%v and %v past each other: %v, %v", a, b, e, f)
	}
	one, e := Row(l, a, y)
	two, f := Row(l, b, x)
	if !slices.Equal(one, two) || e != api.OK || f != api.OK {
		t.Errorf("%q: behind %v and %v %q, %v; behind %v and %v %q, %v", l, a, y, one, e, b, x, two, f)
	}
}

func TestStepsOfUnlikeSitesMeet(t *testing.T) {
	texts := []string{"", "a", "b", "aa", "ab", "ba", "aba", "aab", "abé\n", "aaaa", "abab"}
	for _, s := range texts {
		for _, sites := range [][2]int{{1, 2}, {2, 1}, {1, 8}, {8, 7}, {3, 5}} {
			for _, a := range fitting(sites[0], []rune(s), 'a', 'x') {
				for _, b := range fitting(sites[1], []rune(s), 'a', 'y') {
					wantMeet(t, []rune(s), a, b)
				}
			}
		}
	}
}

func TestStepsMeetAsFarAsThereIsRoom(t *testing.T) {
	for n := len(full) - 3; n <= len(full); n++ {
		for _, a := range fitting(2, full[:n], 'x') {
			for _, b := range fitting(1, full[:n], 'y') {
				if n == len(full)-1 && a.Kind == api.PrimIn && b.Kind == api.PrimIn {
					continue // there is room for one of them alone
				}
				wantMeet(t, full[:n], a, b)
			}
		}
	}
}

func TestRowsOfUnlikeSitesMeet(t *testing.T) {
	d := dice(5)
	for range 4000 {
		s := d.text(d.below(21)) // with 20 runes of each there are MaxPlain
		a, b := d.row(d.below(21), s, 1, 4, 7), d.row(d.below(21), s, 2, 5, 8)
		x, y, e := Both(a, b)
		if e != api.OK {
			t.Fatalf("Both(%v, %v): %v", a, b, e)
		}
		one, e := Row(s, plus(a, y...)...)
		two, f := Row(s, plus(b, x...)...)
		if !slices.Equal(one, two) || e != api.OK || f != api.OK {
			t.Fatalf("%q: behind %v, then %v: %q, %v; behind %v, then %v: %q, %v", s, a, y, one, e, b, x, two, f)
		}
	}
}

// R2

// roomy is a copy of l with room behind it, in which no zero stands.
func roomy[T any](l []T, fill T) []T {
	room := append(append([]T(nil), l...), fill, fill, fill, fill)
	return room[:len(l)]
}

func TestTextsAreNotShared(t *testing.T) {
	for _, s := range []string{"", "abc", string(full[:57])} {
		for _, l := range [][]api.Prim{nil, {none}, {in(1, 0, 'x')}, {in(1, len([]rune(s)), 'x')}, {in(1, 0, 'x'), out(1, 0, 'x')}, {in(1, 0, 'x'), in(1, 0, 'x'), out(1, 1, 'x')}, {in(9, 0, 'x')}, {out(1, 0, 'q')}} {
			text := roomy([]rune(s), 'q')
			room := slices.Clone(text[:cap(text)])
			row := roomy(l, out(9, 9, 'q'))
			rowRoom := slices.Clone(row[:cap(row)])
			got, e := Row(text, row...)
			for i := range got[:cap(got)] {
				got[:cap(got)][i] = 'z'
			}
			if !slices.Equal(text[:cap(text)], room) || !slices.Equal(row[:cap(row)], rowRoom) {
				t.Errorf("Row(%q, %v), %v changed what was handed in", s, l, e)
			}
			again, f := Row(text, row...)
			if slices.Contains(again, 'z') || f != e {
				t.Errorf("Row(%q, %v) the second time: %q, %v", s, l, again, f)
			}
		}
		text := roomy([]rune(s), 'q')
		room := slices.Clone(text[:cap(text)])
		for _, p := range fitting(1, text, 'x') {
			got, _ := Apply(text, p)
			for i := range got[:cap(got)] {
				got[:cap(got)][i] = 'z'
			}
			if !slices.Equal(text[:cap(text)], room) {
				t.Fatalf("Apply(%q, %v) shares with its text", s, p)
			}
		}
	}
}

func TestRowsOfStepsAreNotShared(t *testing.T) {
	fill := out(9, 9, 'q')
	for _, n := range []int{0, 1, 3, 20} {
		for _, m := range []int{0, 1, 3, 20} {
			a, b := roomy(slices.Repeat(steps(in(1, 2, 'x')), n), fill), roomy(slices.Repeat(steps(out(2, 2, 'y')), m), fill)
			roomA, roomB := slices.Clone(a[:cap(a)]), slices.Clone(b[:cap(b)])
			x, y, _ := Both(a, b)
			wasY := slices.Clone(y)
			for i := range x[:cap(x)] {
				x[:cap(x)][i] = fill
			}
			if !slices.Equal(y, wasY) {
				t.Errorf("%d and %d steps: the rows share", n, m)
			}
			wasX := slices.Clone(x)
			for i := range y[:cap(y)] {
				y[:cap(y)][i] = none
			}
			PastAll(none, a...)
			if !slices.Equal(x, wasX) || !slices.Equal(a[:cap(a)], roomA) || !slices.Equal(b[:cap(b)], roomB) {
				t.Errorf("%d and %d steps: what was handed in changed, or the rows share", n, m)
			}
		}
	}
}
