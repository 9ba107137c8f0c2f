package pack

import (
	"fmt"
	"math"
	"slices"
	"strings"
	"testing"

	"lectionary/api"
	"lectionary/op"
)

var begin = api.Elem{}

func el(site, seq, i int) api.Elem { return api.Elem{Site: site, Seq: seq, I: i} }

func edit(site, seq int, after api.Elem, s string, gone ...api.Elem) api.Op {
	return api.Op{Site: site, Seq: seq, Kind: api.KindEdit, After: after, Text: s, Gone: gone}
}

func toggle(site, seq, of, num, gen int) api.Op {
	return api.Op{Site: site, Seq: seq, Kind: api.KindToggle, Of: of, Num: num, Gen: gen}
}

// rising is n elements of site 2, in order, that may be.
func rising(n int) []api.Elem {
	var l []api.Elem
	for k := range n {
		l = append(l, el(2, 1+k/api.MaxRunes, k%api.MaxRunes))
	}
	return l
}

// with is o, and one thing of it another one.
func with(o api.Op, do func(o *api.Op)) api.Op {
	do(&o)
	return o
}

// sameOp and sameMsg tell whether all fields are alike: a nil list and an empty one are.
func sameOp(a, b api.Op) bool {
	return slices.Equal(a.Gone, b.Gone) && a.Site == b.Site && a.Seq == b.Seq && a.Kind == b.Kind && a.After == b.After &&
		a.Text == b.Text && a.Of == b.Of && a.Num == b.Num && a.Gen == b.Gen
}

func sameMsg(a, b api.Msg) bool {
	return slices.EqualFunc(a.Ops, b.Ops, sameOp) && a.Kind == b.Kind && a.Site == b.Site && a.Nonce == b.Nonce &&
		a.Known == b.Known && a.Seq == b.Seq && a.Err == b.Err
}

// The words a second way: bytes of any op and message whose numbers have bytes, whether they may be or not.

func rawNumber(n int) string {
	if n < 128 {
		return string([]byte{byte(n)})
	}
	return string([]byte{byte(n%128 + 128)}) + rawNumber(n/128)
}

func raw(l ...int) string {
	s := ""
	for _, n := range l {
		s += rawNumber(n)
	}
	return s
}

func rawOp(o api.Op) string {
	s := raw(o.Site, o.Seq, o.Kind)
	switch o.Kind {
	case api.KindEdit:
		s += raw(o.After.Site, o.After.Seq, o.After.I, len(o.Text)) + o.Text + raw(len(o.Gone))
		for _, e := range o.Gone {
			s += raw(e.Site, e.Seq, e.I)
		}
	case api.KindToggle:
		s += raw(o.Of, o.Num, o.Gen)
	}
	return s
}

func rawMsg(m api.Msg) string {
	s := raw(m.Kind, m.Site, m.Nonce, m.Known, m.Seq, int(m.Err), len(m.Ops))
	for _, o := range m.Ops {
		s += rawOp(o)
	}
	return s
}

// loose reads numbers of any bytes, as few as can be or not: what is read so is good where its raw bytes are the ones that were read.
type loose struct {
	s  string
	at int
}

func (l *loose) number() int {
	n := 0
	for shift := 0; l.at < len(l.s) && shift < 35; shift += 7 {
		c := int(l.s[l.at])
		l.at++
		n += c % 128 << shift
		if c < 128 {
			return n
		}
	}
	l.at = len(l.s) + 1
	return 0
}

func (l *loose) elem() api.Elem { return el(l.number(), l.number(), l.number()) }

func (l *loose) op() api.Op {
	o := api.Op{Site: l.number(), Seq: l.number(), Kind: l.number()}
	if o.Kind == api.KindToggle {
		o.Of, o.Num, o.Gen = l.number(), l.number(), l.number()
	}
	if o.Kind != api.KindEdit {
		return o
	}
	o.After = l.elem()
	if n := l.number(); l.at+n <= len(l.s) {
		o.Text = l.s[l.at : l.at+n]
		l.at += n
	} else {
		l.at = len(l.s) + 1
	}
	for n := l.number(); n > 0 && l.at <= len(l.s); n-- {
		o.Gone = append(o.Gone, l.elem())
	}
	return o
}

func (l *loose) msg() api.Msg {
	m := api.Msg{Kind: l.number(), Site: l.number(), Nonce: l.number(), Known: l.number(), Seq: l.number(), Err: api.Errno(l.number())}
	for n := l.number(); n > 0 && l.at <= len(l.s); n-- {
		m.Ops = append(m.Ops, l.op())
	}
	return m
}

// wantTakeOp holds TakeOp of s against the loose reader, and tells whether s begins with an op's bytes.
func wantTakeOp(t *testing.T, s string) bool {
	t.Helper()
	l := loose{s: s}
	want := l.op()
	is := l.at <= len(s) && op.Check(want) == api.OK && rawOp(want) == s[:l.at]
	o, rest, e := TakeOp(s)
	if is && (!sameOp(o, want) || rest != s[l.at:] || e != api.OK) {
		t.Fatalf("TakeOp(%.99q) = %v, %.20q, %v; want %v, %.20q", s, o, rest, e, want, s[l.at:])
	}
	if !is && (!sameOp(o, api.Op{}) || rest != "" || e != api.ErrBad) {
		t.Fatalf("TakeOp(%.99q) = %v, %.20q, %v; want ErrBad alone", s, o, rest, e)
	}
	return is
}

// wantTake does so with Take.
func wantTake(t *testing.T, s string) bool {
	t.Helper()
	l := loose{s: s}
	want := l.msg()
	is := l.at == len(s) && mayBe(want) && rawMsg(want) == s
	m, e := Take(s)
	if is && (!sameMsg(m, want) || e != api.OK) {
		t.Fatalf("Take(%.99q) = %v, %v; want %v", s, m, e, want)
	}
	if !is && (!sameMsg(m, api.Msg{}) || e != api.ErrBad) {
		t.Fatalf("Take(%.99q) = %v, %v; want ErrBad alone", s, m, e)
	}
	return is
}

// mayBe tells of which messages the words say that they may be: from the kind down, field by field.
func mayBe(m api.Msg) bool {
	zero := api.Msg{Kind: m.Kind}
	switch m.Kind {
	case api.MsgJoin:
		zero.Nonce = m.Nonce
		return sameMsg(m, zero) && 1 <= m.Nonce && m.Nonce <= api.MaxNum
	case api.MsgWelcome:
		zero.Nonce, zero.Site = m.Nonce, m.Site
		return sameMsg(m, zero) && 1 <= m.Nonce && m.Nonce <= api.MaxNum && isSite(m)
	case api.MsgAsk:
		zero.Site, zero.Known = m.Site, m.Known
		return sameMsg(m, zero) && isSite(m) && isKnown(m)
	case api.MsgSubmit:
		zero.Site, zero.Known, zero.Ops = m.Site, m.Known, m.Ops
		return sameMsg(m, zero) && isSite(m) && isKnown(m) && len(m.Ops) == 1 && op.Check(m.Ops[0]) == api.OK
	case api.MsgSend:
		zero.Known, zero.Ops = m.Known, m.Ops
		bad := func(o api.Op) bool { return op.Check(o) != api.OK }
		return sameMsg(m, zero) && isKnown(m) && len(m.Ops) <= api.MaxSend && !slices.ContainsFunc(m.Ops, bad)
	case api.MsgDone:
		zero.Site, zero.Seq, zero.Err = m.Site, m.Seq, m.Err
		return sameMsg(m, zero) && isSite(m) && 1 <= m.Seq && m.Seq <= api.MaxNum && m.Err >= 1 && m.Err <= 8
	}
	return false
}

func isSite(m api.Msg) bool  { return 1 <= m.Site && m.Site <= api.MaxSites }
func isKnown(m api.Msg) bool { return 0 <= m.Known && m.Known <= api.MaxOps }

// knownOps are ops with their bytes, written out by hand.
var knownOps = []struct {
	o     api.Op
	bytes string
}{
	{edit(1, 1, begin, "a"), "\x01\x01\x01\x00\x00\x00\x01a\x00"},
	{edit(7, 129, begin, "\n~"), "\x07\x81\x01\x01\x00\x00\x00\x02\n~\x00"},
	{edit(1, 2, el(1, 1, 0), "é"), "\x01\x02\x01\x01\x01\x00\x02\xc3\xa9\x00"}, // the length is of bytes
	{edit(8, api.MaxNum, el(3, 300, 11), "xyz", el(2, 127, 1), el(2, 128, 0), el(4, 1, 9)),
		"\x08\x80\x80\x80\x80\x01\x01\x03\xac\x02\x0b\x03xyz\x03\x02\x7f\x01\x02\x80\x01\x00\x04\x01\x09"},
	{edit(1, 1, begin, "", el(2, 1, 0)), "\x01\x01\x01\x00\x00\x00\x00\x01\x02\x01\x00"},
	{edit(1, 1, begin, "a", el(8, api.MaxNum, 11)), "\x01\x01\x01\x00\x00\x00\x01a\x01\x08\x80\x80\x80\x80\x01\x0b"},
	{edit(2, 16384, begin, strings.Repeat("\U0010ffff", 12)),
		"\x02\x80\x80\x01\x01\x00\x00\x00\x30" + strings.Repeat("\xf4\x8f\xbf\xbf", 12) + "\x00"},
	{api.Op{Site: 1, Seq: 1, Kind: api.KindEdit, Text: "a", Gone: []api.Elem{}}, "\x01\x01\x01\x00\x00\x00\x01a\x00"},
	{toggle(2, 1, 1, 3, 0), "\x02\x01\x02\x01\x03\x00"},
	{toggle(8, api.MaxNum, 7, 200, api.MaxNum), "\x08\x80\x80\x80\x80\x01\x02\x07\xc8\x01\x80\x80\x80\x80\x01"},
	{api.Op{Site: 1, Seq: 1, Kind: api.KindToggle, Of: 2, Num: 1, Gone: []api.Elem{}}, "\x01\x01\x02\x02\x01\x00"},
}

// badOps are ops that may not be: of each thing that the words ask for one that lacks it.
func badOps() []api.Op {
	writes, toggles := edit(3, 7, el(2, 1, 0), "a", el(2, 1, 4)), toggle(3, 7, 2, 1, 0)
	l := []api.Op{
		{}, edit(1, 1, begin, ""), edit(1, 1, el(2, 1, 0), "", el(2, 1, 0)), edit(1, 1, el(1, 1, 0), "a"),
		edit(1, 1, begin, "thirteenrunes"), edit(1, 1, begin, "\t"), edit(1, 1, begin, "\xff"), edit(1, 1, begin, "\ufffd"),
		edit(1, 1, el(0, 0, 1), "a"), edit(1, 1, el(2, 1, 12), "a"), edit(1, 1, el(9, 1, 0), "a"), edit(1, 1, el(2, 0, 0), "a"),
		edit(1, 1, begin, "a", begin), edit(1, 1, begin, "a", el(1, 1, 0)), edit(1, 1, begin, "a", el(2, 1, 12)),
		edit(1, 1, begin, "a", el(2, 1, 1), el(2, 1, 1)), edit(1, 1, begin, "a", el(2, 2, 0), el(2, 1, 0)),
		edit(1, 1, begin, "a", rising(api.MaxElems+1)...), edit(1, 1, begin, "", rising(300)...),
		toggle(1, 1, 1, 1, 0), toggle(1, 1, 0, 1, 0), toggle(1, 1, 9, 1, 0), toggle(1, 1, 2, 0, 0), toggle(1, 1, 2, 1, api.MaxNum+1),
		with(toggles, func(o *api.Op) { o.Text = "a" }), with(toggles, func(o *api.Op) { o.After = el(2, 1, 0) }),
		with(toggles, func(o *api.Op) { o.Gone = []api.Elem{el(2, 1, 0)} }),
		with(writes, func(o *api.Op) { o.Of = 1 }), with(writes, func(o *api.Op) { o.Num = 1 }), with(writes, func(o *api.Op) { o.Gen = 1 }),
	}
	for _, n := range []int{math.MinInt, -1, 0, api.MaxNum + 1, math.MaxInt} {
		for _, o := range []api.Op{writes, toggles} {
			l = append(l, with(o, func(o *api.Op) { o.Site = n }), with(o, func(o *api.Op) { o.Seq = n }), with(o, func(o *api.Op) { o.Kind = n }))
		}
	}
	return append(l, with(writes, func(o *api.Op) { o.Site = 9 }), with(writes, func(o *api.Op) { o.Kind = 3 }), with(toggles, func(o *api.Op) { o.Kind = 3 }))
}

// P12.1: Op, TakeOp

func TestOpTellsTheBytes(t *testing.T) {
	for _, c := range knownOps {
		if s, e := Op(c.o); s != c.bytes || e != api.OK {
			t.Errorf("Op(%v) = %q, %v; want %q", c.o, s, e, c.bytes)
		}
	}
}

func TestOpOfOpsThatMayNotBe(t *testing.T) {
	for _, o := range badOps() {
		if s, e := Op(o); s != "" || e != api.ErrForm {
			t.Errorf("Op(%.99v) = %q, %v; want ErrForm alone", o, s, e)
		}
	}
}

func TestTakeOpTellsOpAndRest(t *testing.T) {
	for _, c := range knownOps {
		for _, rest := range []string{"", "\x00", "\x80", "\xff\xff", "more", c.bytes} {
			o, left, e := TakeOp(c.bytes + rest)
			if !sameOp(o, c.o) || left != rest || e != api.OK {
				t.Errorf("TakeOp(%q) = %v, %q, %v; want %v, %q", c.bytes+rest, o, left, e, c.o, rest)
			}
		}
	}
}

func TestTakeOpOfPartsOfOps(t *testing.T) {
	for _, c := range knownOps {
		for k := range len(c.bytes) {
			if wantTakeOp(t, c.bytes[:k]) {
				t.Errorf("%q is taken", c.bytes[:k])
			}
		}
	}
}

func TestTakeOpOfOpsThatMayNotBe(t *testing.T) {
	const high = "\x80\x80\x80\x80\x01" // MaxNum
	for _, s := range []string{
		"", "\x00", "\xff\xff\xff\xff\xff\xff\xff\xff\xff\xff",
		"\x00\x01\x02\x01\x01\x00", "\x09\x01\x02\x01\x01\x00", high + "\x01\x02\x01\x01\x00", "\x01\x00\x02\x02\x01\x00", // no name
		"\x01\x01\x02\x01\x01\x00", "\x01\x01\x02\x00\x01\x00", "\x01\x01\x02\x09\x01\x00", "\x01\x01\x02\x02\x00\x00", // of none, or itself
		"\x01\x01\x02\x02\x01\x81\x80\x80\x80\x01", "\x01\x81\x80\x80\x80\x01\x02\x02\x01\x00", // above MaxNum
		"\x01\x01\x00\x02\x01\x00", "\x01\x01\x03\x02\x01\x00", "\x01\x01\x7f", "\x01\x01" + high, "\x01\x01\x00", "\x01\x01\x03", // no kind
		"\x01\x01\x01\x00\x00\x00\x00\x00",                                                                            // both empty
		"\x01\x01\x01\x02\x01\x00\x00\x01\x02\x01\x00",                                                                // After without a Text
		"\x01\x01\x01\x00\x00\x01\x01a\x00", "\x01\x01\x01\x02\x01\x0c\x01a\x00", "\x01\x01\x01\x01\x01\x00\x01a\x00", // After
		"\x01\x01\x01\x00\x00\x00\x0dthirteenrunes\x00", "\x01\x01\x01\x00\x00\x00\x01\xc3\x00", "\x01\x01\x01\x00\x00\x00\x01\x7f\x00", // Text
		"\x01\x01\x01\x00\x00\x00\x01a\x01\x00\x00\x00", "\x01\x01\x01\x00\x00\x00\x01a\x01\x01\x01\x00", // Gone: the begin, its own
		"\x01\x01\x01\x00\x00\x00\x01a\x02\x02\x01\x01\x02\x01\x01", "\x01\x01\x01\x00\x00\x00\x01a\x02\x02\x01\x01\x02\x01\x00", // not rising
		"\x01\x01\x01\x00\x00\x00\x01a\x02\x02\x01\x01", // one less than it says
		"\x01\x01\x01\x00\x00\x00\x02a\x00",             // a byte less
		// The same, but for a number in too many bytes.
		"\x81\x00\x01\x02\x02\x01\x00", "\x01\x81\x00\x02\x02\x01\x00", "\x01\x01\x82\x00\x02\x01\x00", "\x01\x01\x02\x82\x00\x01\x00",
		"\x01\x01\x02\x02\x81\x00\x00", "\x01\x01\x02\x02\x01\x80\x00", "\x01\x01\x81\x00\x00\x00\x00\x01a\x00", "\x01\x01\x01\x80\x00\x00\x00\x01a\x00",
		"\x01\x01\x01\x00\x80\x00\x00\x01a\x00", "\x01\x01\x01\x00\x00\x80\x00\x01a\x00", "\x01\x01\x01\x00\x00\x00\x81\x00a\x00", "\x01\x01\x01\x00\x00\x00\x01a\x80\x00",
		"\x01\x01\x01\x00\x00\x00\x00\x81\x00\x02\x01\x00", "\x01\x01\x01\x00\x00\x00\x00\x01\x82\x00\x01\x00", "\x01\x01\x01\x00\x00\x00\x00\x01\x02\x81\x00\x00",
		"\x01\x01\x01\x00\x00\x00\x00\x01\x02\x01\x80\x00",
	} {
		for _, rest := range []string{"", "\x00\x00\x00\x00\x00\x00\x00\x00"} {
			// What is behind makes good what was but cut off: the words a second way tell.
			if wantTakeOp(t, s+rest) && rest == "" {
				t.Errorf("%q is taken", s)
			}
		}
	}
}

// TestTakeOpOfRawOps takes the bytes of ops that may not be as far as these have some, what is beside the kind left out.
func TestTakeOpOfRawOps(t *testing.T) {
	for _, o := range badOps() {
		if min(o.Site, o.Seq, o.Kind) >= 0 && max(o.Site, o.Seq, o.Kind) < 1<<35 {
			wantTakeOp(t, rawOp(o))
			wantTakeOp(t, rawOp(o)+"\x00\x01\x00\x00")
		}
	}
}

func TestLongestOp(t *testing.T) {
	var gone []api.Elem
	for i := range api.MaxElems {
		gone = append(gone, el(7, api.MaxNum-api.MaxElems+i, 11))
	}
	o := edit(8, api.MaxNum, el(8, api.MaxNum-1, 11), strings.Repeat("\U0010ffff", api.MaxRunes), gone...)
	s, e := Op(o)
	if s != rawOp(o) || e != api.OK {
		t.Errorf("%d bytes, %v; want %d", len(s), e, len(rawOp(o)))
	}
	got, rest, e := TakeOp(s + "x")
	if !sameOp(got, o) || rest != "x" || e != api.OK {
		t.Errorf("%v, %q, %v", got, rest, e)
	}
	more := with(o, func(o *api.Op) { o.Gone = append([]api.Elem{el(2, 1, 0)}, gone...) })
	if wantTakeOp(t, rawOp(more)) || wantTakeOp(t, s[:len(s)-1]) {
		t.Errorf("one that is too long, or was cut off, is taken")
	}
}

// Counts that say far more than there is, or than may be.
func TestTakeOfHugeCounts(t *testing.T) {
	tail := strings.Repeat("\x02\x01\x00", 1<<20)
	for _, n := range []int{api.MaxElems + 1, 1 << 20, api.MaxNum, api.MaxNum + 1, 1 << 34} {
		for _, rest := range []string{"", "\x02\x01\x00", tail} {
			for _, s := range []string{"\x01\x01\x01\x00\x00\x00\x01a" + raw(n) + rest, "\x01\x01\x01\x00\x00\x00" + raw(n) + rest} {
				if o, left, e := TakeOp(s); !sameOp(o, api.Op{}) || left != "" || e != api.ErrBad {
					t.Errorf("TakeOp(%.20q) = %.99v, %.20q, %v; want ErrBad alone", s, o, left, e)
				}
			}
			if m, e := Take("\x05\x00\x00\x00\x00\x00" + raw(n) + rest); !sameMsg(m, api.Msg{}) || e != api.ErrBad {
				t.Errorf("Take of %d ops: %.99v, %v; want ErrBad alone", n, m, e)
			}
		}
	}
}

// TestTakeOpOfHurtOps makes each byte of each op every other one, one more, and one less.
func TestTakeOpOfHurtOps(t *testing.T) {
	taken := 0
	for _, c := range knownOps {
		for _, s := range hurt(c.bytes + "\x01") {
			if wantTakeOp(t, s) {
				taken++
			}
		}
	}
	if taken == 0 {
		t.Errorf("none is taken")
	}
}

// hurt is s with each byte another one, doubled, or left out.
func hurt(s string) []string {
	var l []string
	for i := range len(s) {
		for by := range 255 {
			l = append(l, s[:i]+string([]byte{s[i] + byte(by+1)})+s[i+1:])
		}
		l = append(l, s[:i+1]+s[i:], s[:i]+s[i+1:])
	}
	return l
}

// TestTakeOpOfShortTexts takes all texts of up to seven of a few bytes.
func TestTakeOpOfShortTexts(t *testing.T) {
	taken := 0
	var try func(s string, left int)
	try = func(s string, left int) {
		if wantTakeOp(t, s) {
			taken++
		}
		if left > 0 {
			for _, c := range []byte("\x00\x01\x02\x03\x09\x80a") {
				try(s+string([]byte{c}), left-1)
			}
		}
	}
	try("", 7)
	try("\x02\x01\x01\x00\x00\x00", 6)
	try("\x02\x01\x01\x00\x00\x00\x01a", 6)
	if taken == 0 {
		t.Errorf("none is taken")
	}
}

// P12.1: Check, Bytes, Take

var (
	writes  = edit(1, 1, begin, "a")
	toggles = toggle(2, 1, 1, 1, 0)
)

// knownMsgs are messages with their bytes, written out by hand.
var knownMsgs = []struct {
	m     api.Msg
	bytes string
}{
	{api.Msg{Kind: api.MsgJoin, Nonce: 5}, "\x01\x00\x05\x00\x00\x00\x00"},
	{api.Msg{Kind: api.MsgJoin, Nonce: api.MaxNum}, "\x01\x00\x80\x80\x80\x80\x01\x00\x00\x00\x00"},
	{api.Msg{Kind: api.MsgWelcome, Nonce: 300, Site: 1}, "\x02\x01\xac\x02\x00\x00\x00\x00"},
	{api.Msg{Kind: api.MsgWelcome, Nonce: 1, Site: 8, Ops: []api.Op{}}, "\x02\x08\x01\x00\x00\x00\x00"},
	{api.Msg{Kind: api.MsgAsk, Site: 3}, "\x03\x03\x00\x00\x00\x00\x00"},
	{api.Msg{Kind: api.MsgAsk, Site: 8, Known: 40}, "\x03\x08\x00\x28\x00\x00\x00"},
	{api.Msg{Kind: api.MsgSubmit, Site: 2, Known: 7, Ops: []api.Op{toggles}}, "\x04\x02\x00\x07\x00\x00\x01\x02\x01\x02\x01\x01\x00"},
	{api.Msg{Kind: api.MsgSubmit, Site: 5, Ops: []api.Op{writes}}, "\x04\x05\x00\x00\x00\x00\x01\x01\x01\x01\x00\x00\x00\x01a\x00"}, // of another site: it may be
	{api.Msg{Kind: api.MsgSend}, "\x05\x00\x00\x00\x00\x00\x00"},
	{api.Msg{Kind: api.MsgSend, Known: 40}, "\x05\x00\x00\x28\x00\x00\x00"},
	{api.Msg{Kind: api.MsgSend, Known: 1, Ops: []api.Op{writes, toggles, writes, edit(1, 1, begin, "é", el(2, 9, 0))}},
		"\x05\x00\x00\x01\x00\x00\x04" + "\x01\x01\x01\x00\x00\x00\x01a\x00" + "\x02\x01\x02\x01\x01\x00" +
			"\x01\x01\x01\x00\x00\x00\x01a\x00" + "\x01\x01\x01\x00\x00\x00\x02\xc3\xa9\x01\x02\x09\x00"},
	{api.Msg{Kind: api.MsgDone, Site: 4, Seq: 200, Err: api.ErrForm}, "\x06\x04\x00\x00\xc8\x01\x01\x00"},
	{api.Msg{Kind: api.MsgDone, Site: 8, Seq: api.MaxNum, Err: api.ErrEarly}, "\x06\x08\x00\x00\x80\x80\x80\x80\x01\x08\x00"},
}

func TestBytesTellsTheBytes(t *testing.T) {
	for _, c := range knownMsgs {
		if e := Check(c.m); e != api.OK {
			t.Errorf("Check(%v) = %v", c.m, e)
		}
		if s, e := Bytes(c.m); s != c.bytes || e != api.OK {
			t.Errorf("Bytes(%v) = %q, %v; want %q", c.m, s, e, c.bytes)
		}
		if m, e := Take(c.bytes); !sameMsg(m, c.m) || e != api.OK {
			t.Errorf("Take(%q) = %v, %v; want %v", c.bytes, m, e, c.m)
		}
	}
}

// wantForm holds Check and Bytes of m, and Take of its bytes as far as it has some, against what the words say.
func wantForm(t *testing.T, m api.Msg) bool {
	t.Helper()
	is, s, want := mayBe(m), "", api.ErrForm
	if is {
		s, want = rawMsg(m), api.OK
	}
	if e := Check(m); e != want {
		t.Fatalf("Check(%.99v) = %v; want %v", m, e, want)
	}
	if got, e := Bytes(m); got != s || e != want {
		t.Fatalf("Bytes(%.99v) = %.99q, %v; want %.99q, %v", m, got, e, s, want)
	}
	lowest := min(m.Kind, m.Site, m.Nonce, m.Known, m.Seq, int(m.Err))
	highest := max(m.Kind, m.Site, m.Nonce, m.Known, m.Seq, int(m.Err))
	if lowest >= 0 && highest < 1<<35 {
		// Of ops that may not be the bytes may be those of some that may.
		if wantTake(t, rawMsg(m)) != is && len(m.Ops) == 0 {
			t.Fatalf("Take of the bytes of %v: %v", m, !is)
		}
	}
	return is
}

// TestMessagesThatMayBe goes through all kinds with all edges of all fields.
func TestMessagesThatMayBe(t *testing.T) {
	nums := []int{-1, 0, 1, api.MaxNum, api.MaxNum + 1}
	lists := [][]api.Op{nil, {writes}, {toggles, writes}, {writes, writes, toggles, writes}, {writes, writes, toggles, writes, writes},
		{{}}, {edit(1, 1, begin, "")}, {writes, toggle(1, 1, 1, 1, 0)}, {with(writes, func(o *api.Op) { o.Gen = 1 }), writes}}
	may := make([]int, 9)
	for kind := -1; kind <= 7; kind++ {
		for _, site := range []int{-1, 0, 1, 8, 9} {
			for _, nonce := range nums {
				for _, known := range []int{-1, 0, 1, 40, 41} {
					for _, seq := range nums {
						for _, err := range []api.Errno{-1, 0, 1, 8, 9} {
							for _, l := range lists {
								if wantForm(t, api.Msg{Kind: kind, Site: site, Nonce: nonce, Known: known, Seq: seq, Err: err, Ops: l}) {
									may[kind+1]++
								}
							}
						}
					}
				}
			}
		}
	}
	// Nonces; those and sites; sites and known; likewise with one op; known and lists; sites, numbers and errors.
	if want := []int{0, 0, 2, 2 * 2, 2 * 3, 2 * 3 * 1, 3 * 4, 2 * 2 * 2, 0}; !slices.Equal(may, want) {
		t.Errorf("of the kinds from -1 on there may be %v; want %v", may, want)
	}
}

// TestMessagesWithOneField makes each field of each known message every number of a few, and many far away.
func TestMessagesWithOneField(t *testing.T) {
	nums := []int{math.MinInt, math.MinInt32, math.MaxInt32, 1 << 32, 1<<32 + 1, math.MaxInt, api.MaxNum - 1, api.MaxNum, api.MaxNum + 1, api.MaxNum + 2}
	for n := -3; n < 300; n++ {
		nums = append(nums, n)
	}
	for _, c := range knownMsgs {
		for _, n := range nums {
			for _, do := range []func(m *api.Msg){
				func(m *api.Msg) { m.Kind = n }, func(m *api.Msg) { m.Site = n }, func(m *api.Msg) { m.Nonce = n },
				func(m *api.Msg) { m.Known = n }, func(m *api.Msg) { m.Seq = n }, func(m *api.Msg) { m.Err = api.Errno(n) },
			} {
				m := c.m
				do(&m)
				wantForm(t, m)
			}
		}
	}
}

// TestMessagesOfOps puts each op into the messages that carry some, at each place.
func TestMessagesOfOps(t *testing.T) {
	for _, c := range knownOps {
		for n := range 7 {
			l := slices.Repeat([]api.Op{c.o}, n)
			if wantForm(t, api.Msg{Kind: api.MsgSubmit, Site: 1, Ops: l}) != (n == 1) {
				t.Errorf("MsgSubmit of %d of %v", n, c.o)
			}
			if wantForm(t, api.Msg{Kind: api.MsgSend, Ops: l}) != (n <= api.MaxSend) {
				t.Errorf("MsgSend of %d of %v", n, c.o)
			}
		}
	}
	for _, o := range badOps() {
		for at := range api.MaxSend {
			l := slices.Repeat([]api.Op{writes}, api.MaxSend)
			l[at] = o
			for _, m := range []api.Msg{{Kind: api.MsgSubmit, Site: 1, Ops: []api.Op{o}}, {Kind: api.MsgSend, Ops: l}, {Kind: api.MsgSend, Ops: l[:at+1]}} {
				if s, e := Bytes(m); Check(m) != api.ErrForm || s != "" || e != api.ErrForm {
					t.Errorf("at %d, %.99v: %v, %q, %v; want ErrForm alone", at, o, Check(m), s, e)
				}
			}
		}
	}
}

func TestTakeOfPartsOfMessages(t *testing.T) {
	for _, c := range knownMsgs {
		for k := range len(c.bytes) {
			if wantTake(t, c.bytes[:k]) {
				t.Errorf("%q is taken", c.bytes[:k])
			}
		}
		for _, rest := range []string{"\x00", "\x01", "\x80", "\x02\x01\x02\x01\x01\x00", c.bytes} {
			if wantTake(t, c.bytes+rest) {
				t.Errorf("%q is taken", c.bytes+rest)
			}
		}
	}
}

// TestTakeOfHurtMessages makes each byte of each message every other one, one more, and one less.
func TestTakeOfHurtMessages(t *testing.T) {
	taken := 0
	for _, c := range knownMsgs {
		for _, s := range hurt(c.bytes) {
			if wantTake(t, s) {
				taken++
			}
		}
	}
	if taken == 0 {
		t.Errorf("none is taken")
	}
}

// In too many bytes: each number of a message's head.
func TestTakeOfLongNumbers(t *testing.T) {
	for _, c := range knownMsgs {
		for i := range len(c.bytes) {
			if c.bytes[i] < 0x80 {
				s := c.bytes[:i] + string([]byte{c.bytes[i] | 0x80, 0}) + c.bytes[i+1:]
				wantTake(t, s)
			}
		}
	}
	for _, s := range []string{
		"\x81\x00\x00\x05\x00\x00\x00\x00", "\x01\x80\x00\x05\x00\x00\x00\x00", "\x01\x00\x85\x00\x00\x00\x00\x00", "\x01\x00\x05\x80\x00\x00\x00\x00",
		"\x01\x00\x05\x00\x80\x00\x00\x00", "\x01\x00\x05\x00\x00\x80\x00\x00", "\x01\x00\x05\x00\x00\x00\x80\x00",
		"\x04\x02\x00\x07\x00\x00\x81\x00\x02\x01\x02\x01\x01\x00", "\x04\x02\x00\x07\x00\x00\x01\x82\x00\x01\x02\x01\x01\x00", "\x04\x02\x00\x07\x00\x00\x01\x02\x01\x02\x01\x01\x80\x00",
	} {
		if m, e := Take(s); !sameMsg(m, api.Msg{}) || e != api.ErrBad {
			t.Errorf("Take(%q) = %v, %v; want ErrBad alone", s, m, e)
		}
	}
}

// R1: bytes of no rule, each again the same.
func TestTakeOfAnyBytes(t *testing.T) {
	seed, taken := uint32(12), 0
	next := func(n int) int {
		seed = seed*1664525 + 1013904223
		return int(seed>>8) % n
	}
	few := "\x00\x00\x00\x01\x01\x01\x02\x02\x03\x04\x05\x06\x08\x80\xffa"
	for range 300000 {
		b := make([]byte, next(24))
		for i := range b {
			b[i] = few[next(len(few))]
		}
		if next(2) == 0 && len(b) > 0 {
			b[next(len(b))] = byte(next(256))
		}
		s := string(b)
		if wantTakeOp(t, s) {
			taken++
		}
		if wantTakeOp(t, "\x01\x01\x01\x00\x00\x00\x01a"+s) {
			taken++
		}
		if wantTake(t, s) || wantTake(t, "\x05\x00\x00\x01\x00\x00"+s) {
			taken++
		}
	}
	if taken == 0 {
		t.Errorf("none is taken")
	}
}

// P12.2

func TestTakeOfBytesIsIt(t *testing.T) {
	var l []api.Op
	for _, site := range []int{1, 2, 8} {
		for _, seq := range []int{1, 127, 128, 16383, 16384, 1 << 21, api.MaxNum} {
			for _, gen := range []int{0, 1, 127, 128, api.MaxNum} {
				l = append(l, toggle(site, seq, 9-site, seq, gen))
			}
			for n := range 30 {
				l = append(l, edit(site, seq, el(3, seq, n%12), strings.Repeat("ß", n%13), rising(n)...))
				l = append(l, edit(site, seq, begin, strings.Repeat("\n", n%13), el(3, seq, n%12)))
			}
		}
	}
	back := 0
	for i, o := range l {
		s, e := Op(o)
		if e != api.OK {
			continue // those with a Gone of their own, and those with nothing
		}
		back++
		if got, rest, e := TakeOp(s + s); !sameOp(got, o) || rest != s || e != api.OK {
			t.Fatalf("TakeOp of Op of %v: %v, %q, %v", o, got, rest, e)
		}
		for _, m := range []api.Msg{
			{Kind: api.MsgSubmit, Site: 1 + i%8, Known: i % 41, Ops: []api.Op{o}},
			{Kind: api.MsgSend, Known: i % 41, Ops: slices.Repeat([]api.Op{toggles, o}, i%3)},
		} {
			s, e := Bytes(m)
			if got, f := Take(s); !sameMsg(got, m) || e != api.OK || f != api.OK {
				t.Fatalf("Take of Bytes of %v: %v, %v, %v", m, got, e, f)
			}
		}
	}
	if back < 1000 {
		t.Errorf("%d ops came back", back)
	}
}

// Unlike ops and messages have unlike bytes, and no op's bytes begin another's.
func TestBytesAreUnlike(t *testing.T) {
	told := make(map[string]api.Op)
	for _, site := range []int{1, 2} {
		for _, seq := range []int{1, 2, 128} {
			for _, e := range append(rising(13), begin, el(3, 1, 0)) {
				for _, o := range []api.Op{edit(site, seq, e, "a"), edit(site, seq, e, "a\n"), edit(site, seq, begin, "", e), edit(site, seq, begin, "a", e), toggle(site, seq, e.Site, e.Seq, e.I)} {
					if s, f := Op(o); f == api.OK {
						told[s] = o
					}
				}
			}
		}
	}
	for s, o := range told {
		for k := range len(s) {
			if other, ok := told[s[:k]]; ok {
				t.Errorf("the bytes of %v begin with those of %v", o, other)
			}
		}
		if got, rest, e := TakeOp(s); !sameOp(got, o) || rest != "" || e != api.OK {
			t.Errorf("%q is of %v, and of %v", s, o, got)
		}
	}
}

// R2

func TestWhatIsHandedInIsNotChanged(t *testing.T) {
	gone := append(make([]api.Elem, 0, 9), el(2, 1, 3), el(2, 1, 4), el(4, 1, 5))
	ops := append(make([]api.Op, 0, 9), edit(1, 1, el(3, 1, 2), "ab", gone...), toggles)
	m := api.Msg{Kind: api.MsgSend, Known: 3, Ops: ops}
	was := fmt.Sprint(m, gone[:cap(gone)], ops[:cap(ops)])
	for range 2 {
		Op(ops[0])
		Check(m)
		s, _ := Bytes(m)
		got, _ := Take(s)
		spoil(got.Ops)
	}
	if is := fmt.Sprint(m, gone[:cap(gone)], ops[:cap(ops)]); is != was {
		t.Errorf("%s; was %s", is, was)
	}
}

// spoil writes over l and what hangs on it, spare room too.
func spoil(l []api.Op) {
	for _, o := range l {
		for i := range o.Gone[:cap(o.Gone)] {
			o.Gone[:cap(o.Gone)][i] = el(8, 8, 8)
		}
	}
	for i := range l[:cap(l)] {
		l[:cap(l)][i] = api.Op{Site: 8}
	}
}

func TestAnswersAreNotShared(t *testing.T) {
	o := edit(1, 1, el(3, 1, 2), "ab", el(2, 1, 0), el(4, 1, 0), el(5, 1, 0))
	m := api.Msg{Kind: api.MsgSend, Ops: []api.Op{o, o, o}}
	one, _ := Op(o)
	s, _ := Bytes(m)
	first, _, _ := TakeOp(one)
	second, _, _ := TakeOp(one)
	spoil([]api.Op{first})
	third, _, _ := TakeOp(one)
	if !sameOp(second, o) || !sameOp(third, o) {
		t.Errorf("%v, %v; want %v", second, third, o)
	}
	a, _ := Take(s)
	b, _ := Take(s)
	spoil(a.Ops[:1:1]) // the first op of one message: the others of it stand
	if !slices.EqualFunc(a.Ops[1:], m.Ops[1:], sameOp) {
		t.Errorf("%v", a.Ops)
	}
	spoil(a.Ops)
	c, _ := Take(s)
	if !sameMsg(b, m) || !sameMsg(c, m) {
		t.Errorf("%v, %v; want %v", b, c, m)
	}
}
