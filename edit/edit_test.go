package edit

import (
	"math"
	"reflect"
	"slices"
	"strings"
	"testing"

	"lectionary/api"
	"lectionary/doc"
	"lectionary/op"
	"lectionary/tree"
)

var begin = api.Elem{}

func el(site, seq, i int) api.Elem { return api.Elem{Site: site, Seq: seq, I: i} }

func write(site, seq int, after api.Elem, s string, gone ...api.Elem) api.Op {
	return api.Op{Site: site, Seq: seq, Kind: api.KindEdit, After: after, Text: s, Gone: gone}
}

func cut(site, seq int, gone ...api.Elem) api.Op { return write(site, seq, begin, "", gone...) }

func toggle(site, seq, of, num, gen int) api.Op {
	return api.Op{Site: site, Seq: seq, Kind: api.KindToggle, Of: of, Num: num, Gen: gen}
}

func row(l ...api.Op) []api.Op { return l }

func plus(l []api.Op, more ...api.Op) []api.Op { return slices.Concat(l, more) }

// writes are n ops of one site that each write s at the begin.
func writes(site, n int, s string) []api.Op {
	var l []api.Op
	for i := range n {
		l = append(l, write(site, i+1, begin, s))
	}
	return l
}

// runes is a row of site 1 whose texts have n runes, in as few ops as can be.
func runes(n int) []api.Op {
	l := writes(1, n/api.MaxRunes, strings.Repeat("ß", api.MaxRunes))
	if n%api.MaxRunes == 0 {
		return l
	}
	return append(l, write(1, len(l)+1, begin, strings.Repeat("é", n%api.MaxRunes)))
}

// some is a row whose text is "xyac\U0010ffff": ß is gone, q is of an op that is not effective, the last toggle does not count.
func some() []api.Op {
	return row(write(1, 1, begin, "aßc"), cut(2, 1, el(1, 1, 1)), write(3, 1, begin, "xy"), write(1, 2, el(1, 1, 1), "q"),
		toggle(2, 2, 1, 2, 0), write(2, 3, el(1, 1, 2), "\U0010ffff"), toggle(3, 2, 2, 1, 3))
}

// badRows are rows that may not be.
func badRows() map[string][]api.Op {
	a := write(1, 1, begin, "ab")
	return map[string][]api.Op{
		"an op that may not be":    row(api.Op{}),
		"a first number 2":         row(write(1, 2, begin, "a")),
		"a name twice":             row(a, a),
		"After of no op":           row(a, write(2, 1, el(3, 1, 0), "x")),
		"Gone not rising":          row(a, cut(2, 1, el(1, 1, 1), el(1, 1, 0))),
		"a toggle of a toggle":     row(a, toggle(2, 1, 1, 1, 0), toggle(3, 1, 2, 1, 0)),
		"more ops than MaxOps":     writes(1, api.MaxOps+1, "a"),
		"more runes than MaxElems": runes(api.MaxElems + 1),
		"very many ops":            writes(1, 100000, "a"),
	}
}

// smallRows are all rows that may be of "ab" and up to three ops more out of a few that touch each other.
func smallRows() [][]api.Op {
	a, b, x := el(1, 1, 0), el(1, 1, 1), el(2, 1, 0)
	more := []api.Op{
		write(2, 0, a, "x"), write(2, 0, begin, "y", b), write(3, 0, x, "éz", a, x), cut(3, 0, a), cut(1, 0, x), write(1, 0, begin, "q"),
		toggle(1, 0, 1, 1, 0), toggle(2, 0, 1, 1, 1), toggle(1, 0, 2, 1, 0), toggle(3, 0, 2, 1, 0), toggle(2, 0, 3, 1, 0),
	}
	rows := [][]api.Op{nil, row(write(1, 1, begin, "ab"))}
	for from, n := 1, 0; n < 3; n++ {
		longer := rows[from:]
		from = len(rows)
		for _, l := range longer {
			for _, o := range more {
				o.Seq = 1 + ofSite(l, o.Site)
				if m := plus(l, o); tree.Check(m) == api.OK {
					rows = append(rows, m)
				}
			}
		}
	}
	return rows
}

// ofSite tells how many ops of a site a row has.
func ofSite(l []api.Op, site int) int {
	n := 0
	for _, o := range l {
		if o.Site == site {
			n++
		}
	}
	return n
}

// same tells whether two ops are the same: an empty Gone is as good as none.
func same(a, b api.Op) bool {
	if !slices.Equal(a.Gone, b.Gone) {
		return false
	}
	a.Gone, b.Gone = nil, nil
	return reflect.DeepEqual(a, b)
}

// isZero tells whether an op is the zero value.
func isZero(o api.Op) bool { return reflect.DeepEqual(o, api.Op{}) }

// textOf tells the text of a row that may be.
func textOf(t *testing.T, l []api.Op) string {
	t.Helper()
	s, e := doc.Text(l)
	if e != api.OK {
		t.Fatalf("no text of %v: %v", l, e)
	}
	return s
}

// replaced is a text where s stands instead of the n runes from at on.
func replaced(text string, at, n int, s string) string {
	l := []rune(text)
	return string(l[:at]) + s + string(l[at+n:])
}

// numbers are numbers around those of a short text, and far ones.
func numbers() []int {
	return []int{-1, 0, 1, 2, 4, 5, 6, math.MinInt, math.MaxInt, math.MinInt + 5, math.MaxInt - 4}
}

// P7.1

func TestReplaceTellsTheOp(t *testing.T) {
	long := strings.Repeat("\U0010ffff", api.MaxRunes)
	x, y, a, c, u := el(3, 1, 0), el(3, 1, 1), el(1, 1, 0), el(1, 1, 2), el(2, 3, 0)
	for _, k := range []struct {
		name        string
		site, at, n int
		s           string
		want        api.Op
		text        string
	}{
		{"at the begin", 1, 0, 0, "p", write(1, 3, begin, "p"), "pxyac\U0010ffff"},
		{"between two of one op", 1, 1, 0, "p", write(1, 3, x, "p"), "xpyac\U0010ffff"},
		{"ahead of what is not visible", 2, 3, 0, "pé", write(2, 4, a, "pé"), "xyapéc\U0010ffff"},
		{"at the end", 3, 5, 0, "\n", write(3, 3, u, "\n"), "xyac\U0010ffff\n"},
		{"of a new site", 4, 2, 0, "p", write(4, 1, y, "p"), "xypac\U0010ffff"},
		{"of the last site", 8, 2, 0, "p", write(8, 1, y, "p"), "xypac\U0010ffff"},
		{"as many runes as can be", 1, 4, 0, long, write(1, 3, c, long), "xyac" + long + "\U0010ffff"},
		{"one goes at the begin", 1, 0, 1, "", cut(1, 3, x), "yac\U0010ffff"},
		{"one goes at the end", 1, 4, 1, "", cut(1, 3, u), "xyac"},
		{"those around what is not visible go", 5, 2, 2, "", cut(5, 1, a, c), "xy\U0010ffff"},
		{"rising, not in order", 5, 1, 4, "", cut(5, 1, a, c, u, y), "x"},
		{"all go", 1, 0, 5, "", cut(1, 3, a, c, u, x, y), ""},
		{"instead of one at the begin", 1, 0, 1, "p", write(1, 3, begin, "p", x), "pyac\U0010ffff"},
		{"instead of two", 3, 1, 2, "pq", write(3, 3, x, "pq", a, y), "xpqc\U0010ffff"},
		{"instead of the last one", 3, 4, 1, "p", write(3, 3, c, "p", u), "xyacp"},
		{"instead of all", 6, 0, 5, "p", write(6, 1, begin, "p", a, c, u, x, y), "p"},
		{"instead of the same", 6, 2, 1, "a", write(6, 1, y, "a", a), "xyac\U0010ffff"},
	} {
		o, e := Replace(some(), k.site, k.at, k.n, k.s)
		if !same(o, k.want) || e != api.OK {
			t.Errorf("%s: %v, %v; want %v", k.name, o, e, k.want)
			continue
		}
		if s := textOf(t, plus(some(), o)); s != k.text {
			t.Errorf("%s: the text is %q; want %q", k.name, s, k.text)
		}
	}
}

func TestReplaceOfNoText(t *testing.T) {
	gone := row(write(1, 1, begin, "ab"), cut(2, 1, el(1, 1, 0), el(1, 1, 1)))
	off := row(write(1, 1, begin, "ab"), toggle(2, 1, 1, 1, 0))
	for name, l := range map[string][]api.Op{"no ops": nil, "an empty list": {}, "all gone": gone, "not effective": off} {
		want := write(1, 1+ofSite(l, 1), begin, "x")
		if o, e := Replace(l, 1, 0, 0, "x"); !same(o, want) || e != api.OK {
			t.Errorf("%s: %v, %v; want %v", name, o, e, want)
		}
		if o, e := Replace(l, 1, 0, 1, "x"); !isZero(o) || e != api.ErrLimit {
			t.Errorf("%s, one goes: %v, %v; want ErrLimit alone", name, o, e)
		}
		if o, e := Replace(l, 1, 1, 0, "x"); !isZero(o) || e != api.ErrLimit {
			t.Errorf("%s, at 1: %v, %v; want ErrLimit alone", name, o, e)
		}
	}
}

// Insert is Replace with n 0, Delete is Replace with s empty: whatever is asked, and whatever errors they tell.
func TestInsertAndDeleteAreReplace(t *testing.T) {
	for _, l := range [][]api.Op{nil, some(), row(api.Op{}), writes(1, api.MaxOps, "a"), runes(api.MaxElems)} {
		for _, site := range []int{0, 1, 3, 8, 9} {
			for _, at := range numbers() {
				for _, s := range []string{"", "p", "é\n", "\t", strings.Repeat("p", api.MaxRunes), strings.Repeat("p", api.MaxRunes+1)} {
					o, e := Insert(l, site, at, s)
					if want, f := Replace(l, site, at, 0, s); !same(o, want) || e != f {
						t.Fatalf("Insert(%v, %d, %d, %q) = %v, %v; want %v, %v", l, site, at, s, o, e, want, f)
					}
				}
				for _, n := range numbers() {
					o, e := Delete(l, site, at, n)
					if want, f := Replace(l, site, at, n, ""); !same(o, want) || e != f {
						t.Fatalf("Delete(%v, %d, %d, %d) = %v, %v; want %v, %v", l, site, at, n, o, e, want, f)
					}
				}
			}
		}
	}
}

// What is asked of a row is told by its words, and what comes of it is what was asked for.
func TestReplaceIsByTheWords(t *testing.T) {
	for _, l := range smallRows() {
		seen, e := doc.Visible(l)
		was := textOf(t, l)
		for site := 1; site <= 4; site++ {
			for at := range len(seen) + 1 {
				for n := range len(seen) - at + 1 {
					for _, s := range []string{"", "p", "é\U0010ffff"} {
						if n == 0 && s == "" {
							continue
						}
						o, f := Replace(l, site, at, n, s)
						checkByWords(t, l, o, seen, site, at, n, s)
						if now := textOf(t, plus(l, o)); now != replaced(was, at, n, s) || e != api.OK || f != api.OK {
							t.Fatalf("behind Replace(%v, %d, %d, %d, %q), %v, the text is %q; it was %q", l, site, at, n, s, f, now, was)
						}
					}
				}
			}
		}
	}
}

// checkByWords asks each field of what Replace tells.
func checkByWords(t *testing.T, l []api.Op, o api.Op, seen []api.Elem, site, at, n int, s string) {
	t.Helper()
	after := begin
	if at > 0 && s != "" {
		after = seen[at-1]
	}
	gone := o.Gone
	o.Gone = nil
	if want := write(site, 1+ofSite(l, site), after, s); !same(o, want) {
		t.Fatalf("%v at %d: %v; want %v but for Gone", l, at, o, want)
	}
	if len(gone) != n {
		t.Fatalf("%v at %d: Gone is %v; want %v", l, at, gone, seen[at:at+n])
	}
	for i, e := range gone {
		if !slices.Contains(seen[at:at+n], e) || i > 0 && !op.Less(gone[i-1], e) {
			t.Fatalf("%v at %d: Gone is %v; want %v, rising", l, at, gone, seen[at:at+n])
		}
	}
}

func TestReplaceOfWhatIsBeyond(t *testing.T) {
	for _, at := range numbers() {
		for _, n := range numbers() {
			for _, s := range []string{"", "p", strings.Repeat("ß", api.MaxRunes)} {
				want := api.OK
				switch {
				case at < 0 || at > 5 || n < 0 || n > 5 || at+n > 5:
					want = api.ErrLimit
				case n == 0 && s == "":
					want = api.ErrNone
				}
				o, e := Replace(some(), 1, at, n, s)
				if e != want || (e != api.OK) != isZero(o) {
					t.Errorf("at %d, %d go, %q comes: %v, %v; want %v", at, n, s, o, e, want)
				}
			}
		}
	}
}

func TestReplaceOfWrongSitesAndTexts(t *testing.T) {
	for _, site := range []int{math.MinInt, -1, 0, api.MaxSites + 1, api.MaxNum, math.MaxInt} {
		if o, e := Replace(some(), site, 0, 1, "p"); !isZero(o) || e != api.ErrForm {
			t.Errorf("site %d: %v, %v; want ErrForm alone", site, o, e)
		}
	}
	for site := 1; site <= api.MaxSites; site++ {
		if o, e := Replace(some(), site, 0, 1, "p"); o.Site != site || e != api.OK {
			t.Errorf("site %d: %v, %v", site, o, e)
		}
	}
	for _, s := range []string{"\t", "p\x00", "\r\n", "\x7f", "\xff", "p\xc3", "\xed\xa0\x80", "\ufffd", "\xf4\x90\x80\x80"} {
		if o, e := Replace(some(), 1, 0, 1, s); !isZero(o) || e != api.ErrForm {
			t.Errorf("text %q: %v, %v; want ErrForm alone", s, o, e)
		}
	}
	for _, n := range []int{api.MaxRunes + 1, api.MaxRunes * 4, 1000000} {
		for _, r := range []string{"p", "ß", "\U0010ffff"} {
			if o, e := Replace(some(), 1, 0, 1, strings.Repeat(r, n)); !isZero(o) || e != api.ErrLimit {
				t.Errorf("%d times %q: %v, %v; want ErrLimit alone", n, r, o, e)
			}
		}
	}
}

// Of all that is wrong at once, the first one of the document's list is told.
func TestReplaceTellsTheFirstError(t *testing.T) {
	long := strings.Repeat("p", api.MaxRunes+1)
	full := writes(1, api.MaxOps, "a")
	for _, k := range []struct {
		name        string
		l           []api.Op
		site, at, n int
		s           string
		want        api.Errno
	}{
		{"a row that may not be", row(api.Op{}), 1, 99, 0, long, api.ErrForm},
		{"a row that may not be, of nothing", row(api.Op{}), 1, 0, 0, "", api.ErrForm},
		{"a site, beyond the text", some(), 0, 99, 0, long, api.ErrForm},
		{"a site, of nothing", some(), 9, 0, 0, "", api.ErrForm},
		{"a site, where no op fits", full, 0, 0, 1, "p", api.ErrForm},
		{"a text, beyond the text", some(), 1, 99, 0, "\t", api.ErrForm},
		{"a text, a long one", some(), 1, 0, 0, long + "\t", api.ErrForm},
		{"a text, where no op fits", full, 1, 0, 0, "\t", api.ErrForm},
		{"beyond the text, of nothing", some(), 1, 6, 0, "", api.ErrLimit},
		{"ahead of the text, of nothing", some(), 1, -1, 0, "", api.ErrLimit},
		{"too many go, where no op fits", full, 1, 0, 41, "", api.ErrLimit},
		{"too many come, where no op fits", full, 1, 0, 0, long, api.ErrLimit},
		{"nothing, where no op fits", full, 1, 0, 0, "", api.ErrNone},
		{"no op fits", full, 1, 0, 0, "p", api.ErrFull},
	} {
		if o, e := Replace(k.l, k.site, k.at, k.n, k.s); !isZero(o) || e != k.want {
			t.Errorf("%s: %v, %v; want %v alone", k.name, o, e, k.want)
		}
	}
}

func TestReplaceWhereThereIsNoRoom(t *testing.T) {
	last := writes(1, api.MaxOps-1, "abcde")
	full := append(last[:len(last):len(last)], write(1, api.MaxOps, begin, "abcde"))
	for _, k := range []struct {
		name  string
		l     []api.Op
		at, n int
		s     string
		want  api.Errno
	}{
		{"the last op writes", last, 0, 0, "p", api.OK},
		{"the last op takes away", last, 0, 1, "", api.OK},
		{"an op more writes", full, 0, 0, "p", api.ErrFull},
		{"an op more takes away", full, 0, 1, "", api.ErrFull},
		{"an op more takes all away", full, 0, api.MaxElems, "", api.ErrFull},
		{"up to MaxElems", runes(api.MaxElems - 3), 0, 0, "éßp", api.OK},
		{"beyond MaxElems", runes(api.MaxElems - 3), 0, 0, "éßpp", api.ErrFull},
		{"beyond MaxElems, where as many go", runes(api.MaxElems - 3), 0, 4, "éßpp", api.ErrFull},
		{"a rune behind MaxElems", runes(api.MaxElems), api.MaxElems, 0, "p", api.ErrFull},
		{"MaxElems go, one comes", runes(api.MaxElems), 0, api.MaxElems, "p", api.ErrFull},
		{"MaxElems go", runes(api.MaxElems), 0, api.MaxElems, "", api.OK},
		{"one more than MaxElems goes", runes(api.MaxElems), 0, api.MaxElems + 1, "", api.ErrLimit},
	} {
		o, e := Replace(k.l, 1, k.at, k.n, k.s)
		if e != k.want || (e != api.OK) != isZero(o) {
			t.Errorf("%s: %v, %v; want %v", k.name, o, e, k.want)
			continue
		}
		if e == api.OK && textOf(t, plus(k.l, o)) != replaced(textOf(t, k.l), k.at, k.n, k.s) {
			t.Errorf("%s: the text is %q", k.name, textOf(t, plus(k.l, o)))
		}
	}
}

func TestRowsThatMayNotBe(t *testing.T) {
	for name, l := range badRows() {
		for _, site := range []int{0, 1, 8} {
			for _, at := range []int{-1, 0, 1, 999} {
				for _, s := range []string{"", "p", "\t"} {
					a, e := Replace(l, site, at, 1, s)
					b, f := Insert(l, site, at, s)
					c, g := Delete(l, site, at, 1)
					d, h := Toggle(l, site, 1, at)
					if !isZero(a) || !isZero(b) || !isZero(c) || !isZero(d) || e != api.ErrForm || f != api.ErrForm || g != api.ErrForm || h != api.ErrForm {
						t.Fatalf("%s: %v, %v, %v, %v; want ErrForm alone", name, e, f, g, h)
					}
				}
			}
			if len(l) > 1000 {
				break
			}
		}
	}
}

// P7.2

func TestToggleTellsTheOp(t *testing.T) {
	l := plus(some(), toggle(4, 1, 1, 1, 0), toggle(5, 1, 1, 1, 1), toggle(4, 2, 1, 1, 1), toggle(4, 3, 1, 1, 3))
	for _, k := range []struct {
		name          string
		site, of, num int
		want          api.Op
	}{
		{"toggled twice, some of one generation, some ahead", 4, 1, 1, toggle(4, 4, 1, 1, 2)},
		{"likewise by its own site", 1, 1, 1, toggle(1, 3, 1, 1, 2)},
		{"by a new site", 8, 1, 1, toggle(8, 1, 1, 1, 2)},
		{"a toggle that did not count", 3, 2, 1, toggle(3, 3, 2, 1, 0)},
		{"not effective", 2, 1, 2, toggle(2, 4, 1, 2, 1)},
		{"never toggled", 1, 3, 1, toggle(1, 3, 3, 1, 0)},
	} {
		if o, e := Toggle(l, k.site, k.of, k.num); !same(o, k.want) || e != api.OK {
			t.Errorf("%s: %v, %v; want %v", k.name, o, e, k.want)
		}
	}
}

// A toggle of each edit counts, whatever was toggled ahead; of all else there is none.
func TestToggleCounts(t *testing.T) {
	for _, l := range smallRows() {
		edits := map[api.Elem]bool{}
		for _, o := range l {
			edits[el(o.Site, o.Seq, 0)] = o.Kind == api.KindEdit
		}
		for _, x := range []api.Elem{el(1, 1, 0), el(1, 2, 0), el(1, 3, 0), el(2, 1, 0), el(2, 2, 0), el(3, 1, 0), el(3, 2, 0), el(4, 1, 0), begin} {
			for _, site := range []int{1, 2, 4} {
				o, e := Toggle(l, site, x.Site, x.Seq)
				if !edits[x] {
					if !isZero(o) || e != api.ErrNone {
						t.Fatalf("Toggle(%v, %d, %v) = %v, %v; want ErrNone alone", l, site, x, o, e)
					}
					continue
				}
				n, _ := doc.Count(l, x.Site, x.Seq)
				if want := toggle(site, 1+ofSite(l, site), x.Site, x.Seq, n); !same(o, want) || e != api.OK {
					t.Fatalf("Toggle(%v, %d, %v) = %v, %v; want %v", l, site, x, o, e, want)
				}
				if m, e := doc.Count(plus(l, o), x.Site, x.Seq); m != n+1 || e != api.OK {
					t.Fatalf("behind Toggle(%v, %d, %v) %d count, %v; want %d", l, site, x, m, e, n+1)
				}
			}
		}
	}
}

func TestToggleOfWhatIsNot(t *testing.T) {
	full := writes(1, api.MaxOps, "a")
	for _, k := range []struct {
		name          string
		l             []api.Op
		site, of, num int
		want          api.Errno
	}{
		{"a toggle", some(), 1, 2, 2, api.ErrNone},
		{"the site's next op, itself", some(), 1, 1, 3, api.ErrNone},
		{"no such number", some(), 1, 3, 3, api.ErrNone},
		{"no such site", some(), 1, 4, 1, api.ErrNone},
		{"no ops", nil, 1, 1, 1, api.ErrNone},
		{"the begin", some(), 1, 0, 0, api.ErrNone},
		{"numbers that may not be", some(), 1, math.MaxInt, math.MinInt, api.ErrNone},
		{"a number below", some(), 1, 1, -1, api.ErrNone},
		{"a site that may not be", some(), 1, 9, 1, api.ErrNone},
		{"by site 0", some(), 0, 1, 1, api.ErrForm},
		{"by site 9", some(), 9, 1, 1, api.ErrForm},
		{"by a site far below", some(), math.MinInt, 1, 1, api.ErrForm},
		{"by a site that may not be, of none", some(), 0, 4, 1, api.ErrForm},
		{"by a site that may not be, where no op fits", full, 0, 1, 1, api.ErrForm},
		{"of none, where no op fits", full, 1, 2, 1, api.ErrNone},
		{"no op fits", full, 1, 1, 1, api.ErrFull},
		{"no op fits, of a new site", full, 2, 1, 1, api.ErrFull},
	} {
		if o, e := Toggle(k.l, k.site, k.of, k.num); !isZero(o) || e != k.want {
			t.Errorf("%s: %v, %v; want %v alone", k.name, o, e, k.want)
		}
	}
}

// One edit is toggled as often as there is room for ops: runes need not have any.
func TestToggleUpToTheLastOp(t *testing.T) {
	l := runes(api.MaxElems)
	was := textOf(t, l)
	for n := 0; len(l) < api.MaxOps; n++ {
		o, e := Toggle(l, 2, 1, 1)
		if want := toggle(2, n+1, 1, 1, n); !same(o, want) || e != api.OK {
			t.Fatalf("toggle %d: %v, %v; want %v", n, o, e, want)
		}
		l = append(l, o)
		if s := textOf(t, l); (s == was) != (n%2 == 1) {
			t.Fatalf("behind toggle %d the text is %q", n, s)
		}
	}
	if o, e := Toggle(l, 2, 1, 1); !isZero(o) || e != api.ErrFull {
		t.Errorf("behind MaxOps: %v, %v; want ErrFull alone", o, e)
	}
}

// P7.3

func TestInsertedTextStandsWhereItWasAskedFor(t *testing.T) {
	rows := append(smallRows(), some(), runes(api.MaxElems-api.MaxRunes))
	for _, l := range rows {
		was := textOf(t, l)
		for at := range len([]rune(was)) + 1 {
			for _, s := range []string{"p", "aé\n", strings.Repeat("\U0010ffff", api.MaxRunes)} {
				o, e := Insert(l, 2, at, s)
				if now := textOf(t, plus(l, o)); now != replaced(was, at, 0, s) || e != api.OK {
					t.Fatalf("behind Insert(%v, 2, %d, %q), %v, the text is %q; it was %q", l, at, s, e, now, was)
				}
			}
		}
	}
}

// A text that is written rune by rune, taken away and written over is the one of a list of runes.
func TestManyEditsAreThoseOfAText(t *testing.T) {
	var l []api.Op
	text := ""
	for k := range api.MaxOps {
		size := len([]rune(text))
		at := (k * 7) % (size + 1)
		n := min((k*5)%4, size-at)
		s := strings.Repeat(string(rune('a'+k%26)), (k*3)%6)
		if n == 0 && s == "" {
			s = "ß"
		}
		o, e := Replace(l, 1+k%api.MaxSites, at, n, s)
		if e != api.OK {
			t.Fatalf("%d: %v", k, e)
		}
		l, text = append(l, o), replaced(text, at, n, s)
		if got := textOf(t, l); got != text {
			t.Fatalf("behind edit %d the text is %q; want %q", k, got, text)
		}
	}
}

// R1, R2

// copied is a row that has nothing in common with l.
func copied(l []api.Op) []api.Op {
	m := slices.Clone(l)
	for i := range m {
		m[i].Gone = slices.Clone(m[i].Gone)
	}
	return m
}

func TestRowIsNotChanged(t *testing.T) {
	for k, base := range smallRows() {
		if k%13 != 0 {
			continue
		}
		l := append(make([]api.Op, 0, len(base)+3), copied(base)...)
		was := append(copied(l), api.Op{}, api.Op{}, api.Op{})
		size := len([]rune(textOf(t, l)))
		for range 2 {
			Replace(l, 1, 0, size, "p")
			Insert(l, 2, size, "p")
			Delete(l, 3, 0, size)
			Toggle(l, 4, 1, 1)
		}
		if !reflect.DeepEqual(l[:cap(l)], was) {
			t.Fatalf("the row, or the room behind it, was %v, is %v", was, l[:cap(l)])
		}
	}
}

func TestAnswersAreNotShared(t *testing.T) {
	l := some()
	want := write(1, 3, begin, "p", el(1, 1, 0), el(1, 1, 2), el(2, 3, 0), el(3, 1, 0), el(3, 1, 1))
	first, _ := Replace(l, 1, 0, 5, "p")
	second, _ := Replace(l, 1, 0, 5, "p")
	all := first.Gone[:cap(first.Gone)]
	for i := range all {
		all[i] = el(8, 8, 8)
	}
	third, _ := Replace(l, 1, 0, 5, "p")
	if !same(second, want) || !same(third, want) || !reflect.DeepEqual(l, some()) {
		t.Errorf("%v, %v; want %v; the row is %v", second, third, want, l)
	}
}
