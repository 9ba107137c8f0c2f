package text

import (
	"math"
	"slices"
	"strings"
	"testing"
	"unicode/utf8"

	"lectionary/api"
)

// may says the document's words on a rune over again, by what is left out: the numbers that are no rune's, the ones below the space but the line's end, and two more.
func may(r rune) bool {
	return utf8.ValidRune(r) && (r >= ' ' || r == 10) && r != 127 && r != utf8.RuneError
}

// good are texts that may be, with their runes.
var good = []struct {
	s string
	l []rune
}{
	{"", nil},
	{"a", []rune{'a'}},
	{"aé", []rune{'a', 0xe9}},
	{"\n", []rune{10}},
	{" ~", []rune{32, 126}},
	{"a\nb\n", []rune{'a', 10, 'b', 10}},
	{"\u0080\u07ff\u0800", []rune{0x80, 0x7ff, 0x800}},
	{"\ud7ff\ue000", []rune{0xd7ff, 0xe000}},
	{"\ufffc\ufffe\uffff", []rune{0xfffc, 0xfffe, 0xffff}},
	{"\U00010000\U0010ffff", []rune{0x10000, 0x10ffff}},
	{"\ufeff", []rune{0xfeff}},
	{"e\u0301", []rune{'e', 0x301}}, // a letter and its mark are two runes
	{strings.Repeat("ß\n", 3000), slices.Repeat([]rune{0xdf, 10}, 3000)},
}

// bad are texts that may not be: runes that may not, and bytes that are no rune's.
var bad = []string{
	"\x00",
	"\t",
	"\r",
	"\x0b",
	"\x1f",
	"\x7f",
	"\ufffd",
	"\x80",             // a byte that begins nothing
	"\xff",             // a byte that is in no text
	"\xc3",             // the first byte of two
	"\xe2\x82",         // two bytes of three
	"\xf0\x9f\x98",     // three bytes of four
	"\xc3\xa9\xa9",     // one byte too many
	"\xc0\x80",         // 0 in two bytes
	"\xc1\xa1",         // 'a' in two bytes
	"\xe0\x80\x8a",     // 10 in three bytes
	"\xf0\x82\x82\xac", // a rune of three bytes in four
	"\xed\xa0\x80",     // 0xd800
	"\xed\xbf\xbf",     // 0xdfff
	"\xf4\x90\x80\x80", // 0x110000
	"\xf8\x88\x80\x80\x80",
}

// never are numbers that no rune has.
var never = []rune{math.MinInt32, -0xffff, -10, -1, 0xd800, 0xdabc, 0xdfff, 0x110000, 1 << 24, 0x1000000a, 0x1000061, math.MaxInt32}

// placed puts s at the beginning, in the midst and at the end of what may be.
func placed(s string) []string {
	return []string{s, s + "aé", "aé" + s, "é\n" + s + "x", s + s}
}

// P3.1

func TestRuneOfEach(t *testing.T) {
	for r := rune(-300); r < 0x110200; r++ {
		want := api.ErrForm
		if may(r) {
			want = api.OK
		}
		if e := Rune(r); e != want {
			t.Errorf("Rune(%#x) = %v; want %v", r, e, want)
		}
	}
	for _, r := range never {
		if e := Rune(r); e != api.ErrForm {
			t.Errorf("Rune(%#x) = %v; want ErrForm", r, e)
		}
	}
}

func TestRuneAtTheEdges(t *testing.T) {
	for _, r := range []rune{10, 32, 126, 128, 0xd7ff, 0xe000, 0xfffc, 0xfffe, 0x10ffff} {
		if e := Rune(r); e != api.OK {
			t.Errorf("Rune(%#x) = %v", r, e)
		}
	}
	for _, r := range []rune{-1, 0, 9, 11, 13, 31, 127, 0xd800, 0xdfff, 0xfffd, 0x110000} {
		if e := Rune(r); e != api.ErrForm {
			t.Errorf("Rune(%#x) = %v; want ErrForm", r, e)
		}
	}
}

func TestTextsThatMayBe(t *testing.T) {
	for _, c := range good {
		if e := Check(c.s); e != api.OK {
			t.Errorf("Check(%.20q) = %v", c.s, e)
		}
		if l, e := Runes(c.s); !slices.Equal(l, c.l) || e != api.OK {
			t.Errorf("Runes(%.20q): %d runes, %v; want %d", c.s, len(l), e, len(c.l))
		}
		if n, e := Len(c.s); n != len(c.l) || e != api.OK {
			t.Errorf("Len(%.20q) = %d, %v; want %d", c.s, n, e, len(c.l))
		}
	}
}

func TestTextsThatMayNotBe(t *testing.T) {
	for _, b := range bad {
		for _, s := range placed(b) {
			if e := Check(s); e != api.ErrForm {
				t.Errorf("Check(%q) = %v; want ErrForm", s, e)
			}
			if l, e := Runes(s); len(l) != 0 || e != api.ErrForm {
				t.Errorf("Runes(%q) = %v, %v; want ErrForm alone", s, l, e)
			}
			if n, e := Len(s); n != 0 || e != api.ErrForm {
				t.Errorf("Len(%q) = %d, %v; want ErrForm alone", s, n, e)
			}
		}
	}
}

func TestMakeTellsTheText(t *testing.T) {
	for _, c := range good {
		if s, e := Make(c.l...); s != c.s || e != api.OK {
			t.Errorf("Make of %d runes = %.20q, %v; want %.20q", len(c.l), s, e, c.s)
		}
	}
	if s, e := Make(); s != "" || e != api.OK {
		t.Errorf("Make() = %q, %v", s, e)
	}
	if s, e := Make([]rune{}...); s != "" || e != api.OK {
		t.Errorf("Make of an empty list = %q, %v", s, e)
	}
}

func TestMakeOfRunesThatMayNotBe(t *testing.T) {
	for _, r := range append([]rune{0, 9, 13, 31, 127, 0xfffd}, never...) {
		for _, l := range [][]rune{{r}, {r, 'a'}, {'a', r}, {'a', r, 'b'}, {'a', 'b', r, r}} {
			if s, e := Make(l...); s != "" || e != api.ErrForm {
				t.Errorf("Make(%#x) = %q, %v; want ErrForm alone", l, s, e)
			}
		}
	}
}

func TestCutTellsEachPart(t *testing.T) {
	for _, c := range good {
		n := min(len(c.l), 20)
		for from := range n + 1 {
			for to := from; to <= n; to++ {
				want := string(c.l[from:to])
				if s, e := Cut(c.s, from, to); s != want || e != api.OK {
					t.Errorf("Cut(%.20q, %d, %d) = %.20q, %v; want %.20q", c.s, from, to, s, e, want)
				}
			}
		}
		if s, e := Cut(c.s, 0, len(c.l)); s != c.s || e != api.OK {
			t.Errorf("the whole of %.20q: %.20q, %v", c.s, s, e)
		}
		if s, e := Cut(c.s, len(c.l), len(c.l)); s != "" || e != api.OK {
			t.Errorf("nothing of %.20q: %.20q, %v", c.s, s, e)
		}
	}
}

func TestCutBeyondTheText(t *testing.T) {
	for _, c := range good {
		n := len(c.l)
		for _, at := range [][2]int{
			{0, n + 1}, {n, n + 1}, {n + 1, n + 1}, {n + 1, n}, {n + 1, n + 2}, {1, 0},
			{-1, 0}, {-1, n}, {-1, -1}, {-2, -1}, {0, -1},
			{0, math.MaxInt}, {math.MinInt, 0}, {math.MinInt, math.MaxInt}, {math.MaxInt, math.MinInt}, {math.MaxInt, math.MaxInt}, {math.MinInt, math.MinInt},
		} {
			if s, e := Cut(c.s, at[0], at[1]); s != "" || e != api.ErrLimit {
				t.Errorf("Cut(%.20q, %d, %d) = %.20q, %v; want ErrLimit alone", c.s, at[0], at[1], s, e)
			}
		}
	}
	// Two runes in three bytes: the length counts runes.
	if s, e := Cut("aé", 0, 3); s != "" || e != api.ErrLimit {
		t.Errorf("a part by bytes: %q, %v", s, e)
	}
}

// A text that may not be is told ahead of places that may not, and also where it is behind the part that was asked for.
func TestCutOfTextsThatMayNotBe(t *testing.T) {
	for _, b := range bad {
		for _, s := range placed(b) {
			for _, at := range [][2]int{{0, 0}, {0, 1}, {1, 1}, {-1, 0}, {2, 1}, {0, 100}, {math.MinInt, math.MaxInt}} {
				if part, e := Cut(s, at[0], at[1]); part != "" || e != api.ErrForm {
					t.Errorf("Cut(%q, %d, %d) = %q, %v; want ErrForm alone", s, at[0], at[1], part, e)
				}
			}
		}
	}
}

// R2

func TestListsAreNotShared(t *testing.T) {
	in := []rune{'a', 'b', 'c'}
	s, _ := Make(in...)
	in[0] = 'x'
	if s != "abc" {
		t.Errorf("the text changed with the list: %q", s)
	}
	first, _ := Runes(s)
	second, _ := Runes(s)
	first[0] = 'z'
	if first = append(first[:1], 'y'); !slices.Equal(second, []rune("abc")) || s != "abc" {
		t.Errorf("two lists share: %q, %q", second, s)
	}
	if Make(in[:2:3]...); !slices.Equal(in, []rune("xbc")) {
		t.Errorf("the list that was handed in changed: %q", in)
	}
}

// P3.2

func wantBack(t *testing.T, l []rune) {
	t.Helper()
	s, e := Make(l...)
	back, f := Runes(s)
	if n, g := Len(s); e != api.OK || f != api.OK || g != api.OK || n != len(l) || !slices.Equal(back, l) {
		t.Errorf("%.10q: Make %v; Runes %.10q, %v; Len %d, %v", l, e, back, f, n, g)
	}
}

func TestRunesOfMakeAreThey(t *testing.T) {
	var all []rune
	for r := rune(0); r <= utf8.MaxRune; r++ {
		if may(r) {
			all = append(all, r)
		}
	}
	wantBack(t, nil)
	wantBack(t, all)
	slices.Reverse(all)
	wantBack(t, all)
	for i := 0; i+3 <= len(all); i += 211 {
		wantBack(t, all[i:i+1])
		wantBack(t, []rune{all[i], 10, all[i+2], all[len(all)-1-i]})
	}
}

func TestMakeOfRunesIsIt(t *testing.T) {
	for _, c := range good {
		l, _ := Runes(c.s)
		if s, e := Make(l...); s != c.s || e != api.OK {
			t.Errorf("Make of the runes of %.20q = %.20q, %v", c.s, s, e)
		}
	}
}
