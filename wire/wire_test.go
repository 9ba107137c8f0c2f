package wire

import (
	"fmt"
	"math"
	"slices"
	"strings"
	"testing"

	"lectionary/api"
	"lectionary/number"
	"lectionary/pack"
	"lectionary/seal"
)

var begin = api.Elem{}

func el(site, seq, i int) api.Elem { return api.Elem{Site: site, Seq: seq, I: i} }

func edit(site, seq int, after api.Elem, s string, gone ...api.Elem) api.Op {
	return api.Op{Site: site, Seq: seq, Kind: api.KindEdit, After: after, Text: s, Gone: gone}
}

func join(nonce int) api.Msg { return api.Msg{Kind: api.MsgJoin, Nonce: nonce} }

// rising is n elements of site 2, in order, that may be.
func rising(n int) []api.Elem {
	var l []api.Elem
	for k := range n {
		l = append(l, el(2, 1+k/api.MaxRunes, k%api.MaxRunes))
	}
	return l
}

// messages are some of every kind, short and long, one of them empty of ops.
func messages() []api.Msg {
	toggle := api.Op{Site: 3, Seq: 9, Kind: api.KindToggle, Of: 1, Num: 300, Gen: 2}
	return []api.Msg{
		join(1),
		join(5),
		join(api.MaxNum),
		{Kind: api.MsgWelcome, Nonce: 130, Site: api.MaxSites},
		{Kind: api.MsgAsk, Site: 2, Known: api.MaxOps},
		{Kind: api.MsgSubmit, Site: 1, Known: 3, Ops: []api.Op{edit(1, 1, begin, "é")}},
		{Kind: api.MsgSend},
		{Kind: api.MsgSend, Known: 3, Ops: []api.Op{edit(1, 1, begin, "ab"), edit(2, 7, begin, "", rising(3)...), edit(1, 2, el(1, 1, 1), "c", el(1, 1, 0)), toggle}},
		{Kind: api.MsgSend, Ops: []api.Op{edit(1, 1, begin, strings.Repeat("\U0010ffff", api.MaxRunes), rising(20)...)}},
		{Kind: api.MsgDone, Site: 4, Seq: api.MaxNum, Err: api.ErrEarly},
	}
}

// sameMsg tells whether all fields are alike: a nil list and an empty one are.
func sameMsg(a, b api.Msg) bool { return fmt.Sprint(a) == fmt.Sprint(b) }

func isZero(m api.Msg) bool { return sameMsg(m, api.Msg{}) && m.Ops == nil }

// to and from are packets of any bytes on both ways.
func to(end int, s string) api.Packet   { return api.Packet{To: end, Text: s} }
func from(end int, s string) api.Packet { return api.Packet{From: end, Text: s} }

// frame is a frame of s by hand, with a size that need not be its own.
func frame(size int, s string) string {
	head, _ := number.Put(size)
	h := seal.Of(head + s)
	return head + string([]byte{byte(h >> 24), byte(h >> 16), byte(h >> 8), byte(h)}) + s
}

// row is n packets, each one another one.
func row(n int) []api.Packet {
	var l []api.Packet
	for k := range n {
		p := to(1+k%api.MaxSites, fmt.Sprint("packet ", k))
		if k%3 == 1 {
			p = from(1+k%api.MaxSites, fmt.Sprint("packet ", k))
		}
		p.Hurt = k%5 == 3
		l = append(l, p)
	}
	return l
}

// badPackets are all that may not be.
func badPackets() []api.Packet {
	return []api.Packet{
		{Text: "a"},
		{},
		{To: 1, From: 1, Text: "a"},
		{To: 1, From: 2, Text: "a"},
		{To: 8, From: 8},
		{To: 9, Text: "a"},
		{From: 9, Text: "a"},
		{To: -1, Text: "a"},
		{From: -1, Text: "a"},
		{To: 1, From: -1},
		{To: -1, From: 1},
		{To: math.MaxInt},
		{To: math.MinInt},
		{From: math.MaxInt},
		{From: math.MinInt},
		{To: 1, Text: strings.Repeat("x", 710)},
		{From: 1, Text: strings.Repeat("x", 1<<20)},
		{From: 9, Hurt: true},
	}
}

// badNets are nets that may not be: one packet too many, or one that may not be, at each place of a few.
func badNets() [][]api.Packet {
	nets := [][]api.Packet{row(41), row(1000)}
	for k, p := range badPackets() {
		l := row(1 + k%4)
		l[k%len(l)] = p
		nets = append(nets, l)
	}
	l := row(40)
	l[39] = api.Packet{}
	return append(nets, l)
}

func wantNet(t *testing.T, what string, got []api.Packet, e api.Errno, want []api.Packet) {
	t.Helper()
	if e != api.OK || !slices.Equal(got, want) {
		t.Errorf("%s: %v, %v; want %v", what, got, e, want)
	}
}

func wantRefused(t *testing.T, what string, got []api.Packet, e, want api.Errno) {
	t.Helper()
	if e != want || got != nil {
		t.Errorf("%s: %d packets, %v; want %v alone", what, len(got), e, want)
	}
}

// P13.1

func TestMakeByHand(t *testing.T) {
	p, e := Make(0, 3, join(5))
	// Seven bytes, the check of them and their count, and they.
	s := "\x07\x01\x00\x05\x00\x00\x00\x00"
	h := seal.Of(s)
	want := from(3, "\x07"+string([]byte{byte(h >> 24), byte(h >> 16), byte(h >> 8), byte(h)})+s[1:])
	if p != want || e != api.OK {
		t.Errorf("%v, %v; want %v", p, e, want)
	}
}

func TestMakeOnEachWay(t *testing.T) {
	for a := -3; a <= 12; a++ {
		for b := -3; b <= 12; b++ {
			fine := a == 0 && b >= 1 && b <= 8 || b == 0 && a >= 1 && a <= 8
			p, e := Make(a, b, join(5))
			if fine && (e != api.OK || p != api.Packet{To: a, From: b, Text: frame(7, "\x01\x00\x05\x00\x00\x00\x00")}) {
				t.Errorf("to %d from %d: %v, %v", a, b, p, e)
			}
			if !fine && (e != api.ErrForm || p != api.Packet{}) {
				t.Errorf("to %d from %d: %v, %v; want ErrForm alone", a, b, p, e)
			}
		}
	}
}

func TestMakeIsTheFrameOfTheBytes(t *testing.T) {
	for i, m := range messages() {
		s, f := pack.Bytes(m)
		if f != api.OK {
			t.Fatalf("message %d: %v", i, f)
		}
		if p, e := Make(7, 0, m); e != api.OK || p != to(7, frame(len(s), s)) {
			t.Errorf("message %d: %v, %v", i, p, e)
		}
	}
}

func TestMakeOfNoMessage(t *testing.T) {
	for i, m := range []api.Msg{
		{},
		join(0),
		join(-1),
		join(api.MaxNum + 1),
		{Kind: 7, Nonce: 5},
		{Kind: api.MsgJoin, Nonce: 5, Site: 1},
		{Kind: api.MsgSubmit, Site: 1},
		{Kind: api.MsgSend, Ops: []api.Op{{}}},
		{Kind: api.MsgSend, Ops: []api.Op{edit(1, 1, begin, "")}},
		{Kind: api.MsgDone, Site: 1, Seq: 1},
	} {
		if p, e := Make(0, 1, m); e != api.ErrForm || p != (api.Packet{}) {
			t.Errorf("message %d: %v, %v; want ErrForm alone", i, p, e)
		}
	}
}

// sized is a message of n bytes, from 200 to 900: what ops of ever more elements leave open, letters fill.
func sized(t *testing.T, n int) api.Msg {
	t.Helper()
	for elems := range api.MaxElems {
		for k := range api.MaxRunes + 1 {
			m := api.Msg{Kind: api.MsgSend, Ops: []api.Op{edit(1, 1, begin, "a"+strings.Repeat("b", min(k, 11)), rising(elems)...)}}
			if s, e := pack.Bytes(m); e == api.OK && len(s) == n {
				return m
			}
		}
	}
	two := api.Msg{Kind: api.MsgSend, Ops: []api.Op{edit(1, 1, begin, "a", rising(195)...), {}}}
	for elems := range api.MaxElems {
		for k := 1; k <= api.MaxRunes; k++ {
			two.Ops[1] = edit(1, 2, begin, strings.Repeat("b", k), rising(elems)...)
			if s, e := pack.Bytes(two); e == api.OK && len(s) == n {
				return two
			}
		}
	}
	t.Fatalf("no message of %d bytes", n)
	return api.Msg{}
}

func TestMakeAtTheLimit(t *testing.T) {
	for n := api.MaxFrame - 3; n <= api.MaxFrame+12; n++ {
		m := sized(t, n)
		p, e := Make(2, 0, m)
		if n > api.MaxFrame {
			if e != api.ErrLimit || p != (api.Packet{}) {
				t.Errorf("%d bytes: %d, %v; want ErrLimit alone", n, len(p.Text), e)
			}
			continue
		}
		// Two bytes of size, four of the check.
		got, f := Read(p)
		if e != api.OK || len(p.Text) != n+6 || f != api.OK || !sameMsg(got, m) {
			t.Errorf("%d bytes: %d, %v, %v", n, len(p.Text), e, f)
		}
	}
}

func TestMakeTellsFormAheadOfLimit(t *testing.T) {
	big := sized(t, 900)
	for _, c := range []struct {
		to, from int
		e        api.Errno
	}{{1, 0, api.ErrLimit}, {0, 1, api.ErrLimit}, {0, 0, api.ErrForm}, {1, 1, api.ErrForm}, {9, 0, api.ErrForm}, {0, -1, api.ErrForm}} {
		if p, e := Make(c.to, c.from, big); e != c.e || p != (api.Packet{}) {
			t.Errorf("to %d from %d: %v; want %v alone", c.to, c.from, e, c.e)
		}
	}
	big.Site = 1
	if p, e := Make(1, 0, big); e != api.ErrForm || p != (api.Packet{}) {
		t.Errorf("a long one that may not be: %v; want ErrForm alone", e)
	}
}

func TestReadByHand(t *testing.T) {
	f := frame(7, "\x01\x00\x05\x00\x00\x00\x00")
	for _, p := range []api.Packet{to(1, f), to(8, f), from(1, f), from(8, f), {To: 2, Text: f, Hurt: true}} {
		if m, e := Read(p); e != api.OK || !sameMsg(m, join(5)) {
			t.Errorf("%v: %v, %v", p, m, e)
		}
	}
	m, e := Read(to(1, frame(7, "\x05\x00\x00\x03\x00\x00\x00")))
	if e != api.OK || !sameMsg(m, api.Msg{Kind: api.MsgSend, Known: 3}) {
		t.Errorf("%v, %v", m, e)
	}
}

func TestReadOfWhatMayNotBe(t *testing.T) {
	f := seal.Add("\x01\x00\x05\x00\x00\x00\x00")
	for _, p := range badPackets() {
		for _, s := range []string{p.Text, f} {
			if len(p.Text) <= 709 {
				p.Text = s
			}
			if m, e := Read(p); e != api.ErrForm || !isZero(m) {
				t.Errorf("%.60v: %v, %v; want ErrForm alone", p, m, e)
			}
		}
	}
}

func TestReadOfNoMessage(t *testing.T) {
	s := "\x01\x00\x05\x00\x00\x00\x00"
	f := seal.Add(s)
	bad := []string{
		"",
		"\x00",
		s,
		f + "\x00",
		f + "more",
		f + f,
		"\x00" + f,
		seal.Add(""),
		seal.Add(f),
		seal.Add(s + "x"),
		seal.Add(s[:6]),
		seal.Add("\x01\x00\x00\x00\x00\x00\x00"),
		seal.Add("\x07\x00\x05\x00\x00\x00\x00"),
		seal.Add("\x01\x00\x85\x00\x00\x00\x00\x00"),
		frame(6, s),
		frame(8, s),
		strings.Repeat("x", 709),
		strings.Repeat("\x00", 709),
		// A frame of one byte more than a frame has: such a packet may be, but none makes it.
		frame(701, s+strings.Repeat("\x00", 694)),
	}
	for k := range f {
		bad = append(bad, f[:k])
	}
	for _, s := range bad {
		for _, p := range []api.Packet{to(1, s), from(1, s), {To: 1, Text: s, Hurt: true}} {
			if m, e := Read(p); e != api.ErrBad || !isZero(m) {
				t.Errorf("%.60v: %v, %v; want ErrBad alone", p, m, e)
			}
		}
	}
}

// P13.2

func TestSendAddsBehind(t *testing.T) {
	all := row(12)
	for n := range len(all) + 1 {
		got, e := Send(all[:n], all[n:]...)
		wantNet(t, fmt.Sprint(n, " there"), got, e, all)
	}
	got, e := Send(nil)
	wantNet(t, "none", got, e, nil)
	got, e = Send([]api.Packet{}, all[0], all[0], all[1])
	wantNet(t, "one twice", got, e, []api.Packet{all[0], all[0], all[1]})
}

func TestSendLosesWhatFindsNoRoom(t *testing.T) {
	all := row(120)
	for _, n := range []int{0, 1, 20, 38, 39, 40} {
		for _, more := range []int{0, 1, 2, 3, 20, 40, 41, 80} {
			got, e := Send(all[:n], all[n:n+more]...)
			wantNet(t, fmt.Sprint(n, " there, more: ", more), got, e, all[:min(n+more, 40)])
		}
	}
}

func TestSendOfWhatMayNotBe(t *testing.T) {
	for i, l := range badNets() {
		got, e := Send(l)
		wantRefused(t, fmt.Sprint("net ", i), got, e, api.ErrForm)
		got, e = Send(l, row(2)...)
		wantRefused(t, fmt.Sprint("net ", i), got, e, api.ErrForm)
	}
	for i, p := range badPackets() {
		for _, ahead := range []int{0, 1, 5, 40, 60} {
			for _, there := range []int{0, 3, 39, 40} {
				// One that would find no room is refused, too.
				got, e := Send(row(there), append(row(ahead), p, to(1, "a"))...)
				wantRefused(t, fmt.Sprint("packet ", i), got, e, api.ErrForm)
			}
		}
	}
}

func TestPickTakesOneOut(t *testing.T) {
	for _, size := range []int{1, 2, 7, 40} {
		all := row(size)
		for n := range size {
			p, rest, e := Pick(all, n)
			if p != row(size)[n] {
				t.Errorf("packet %d of %d: %v", n, size, p)
			}
			wantNet(t, fmt.Sprint("packet ", n, " of ", size), rest, e, slices.Delete(row(size), n, n+1))
		}
	}
}

func TestDoubleAddsOneBehind(t *testing.T) {
	for _, size := range []int{1, 2, 7, 39} {
		for n := range size {
			got, e := Double(row(size), n)
			wantNet(t, fmt.Sprint("packet ", n, " of ", size), got, e, append(row(size), row(size)[n]))
		}
	}
}

func TestDoubleOfFullNet(t *testing.T) {
	for n := range 40 {
		got, e := Double(row(40), n)
		wantRefused(t, fmt.Sprint("packet ", n), got, e, api.ErrFull)
	}
	for _, n := range []int{-1, 40, 41} {
		got, e := Double(row(40), n)
		wantRefused(t, fmt.Sprint("packet ", n), got, e, api.ErrNone)
	}
}

// hurtByHand is l with the byte at of packet n more by so many.
func hurtByHand(l []api.Packet, n, at, more int) []api.Packet {
	l = slices.Clone(l)
	b := []byte(l[n].Text)
	b[at] = byte((int(b[at]) + more) % 256)
	l[n].Text, l[n].Hurt = string(b), true
	return l
}

func TestHurtByHand(t *testing.T) {
	for _, c := range []struct {
		s      string
		at, by int
		want   string
	}{
		{"abc", 0, 0, "bbc"},
		{"abc", 0, 1, "cbc"},
		{"abc", 1, 4, "agc"},
		{"abc", 2, 253, "aba"},
		{"abc", 2, 254, "abb"},
		{"abc", 2, 255, "abd"},
		{"abc", 2, 256, "abe"},
		{"abc", 3, 0, "bbc"},
		{"abc", 5, 0, "abd"},
		{"abc", 300, 2, "dbc"},
		{"\xff", 0, 0, "\x00"},
		{"\xff", 9, 254, "\xfe"},
		{"\x00", 0, 254, "\xff"},
		{"\x00", 0, 255 * 1000, "\x01"},
		{"\x80", 1, 200, "\x49"},
		{"é", 0, 0, "\xc4\xa9"},
	} {
		for _, way := range []func(int, string) api.Packet{to, from} {
			want := way(1, c.want)
			want.Hurt = true
			got, e := Hurt([]api.Packet{way(1, c.s)}, 0, c.at, c.by)
			wantNet(t, fmt.Sprintf("%q, %d, %d", c.s, c.at, c.by), got, e, []api.Packet{want})
		}
	}
}

func TestHurtAtEachPlaceByEach(t *testing.T) {
	l := []api.Packet{to(1, "ab"), from(8, "x\x00\xff"), to(3, "z")}
	for n, p := range l {
		for at := range len(p.Text) {
			for by := range 600 {
				for _, round := range []int{0, 1, 7} {
					got, e := Hurt(l, n, at+round*len(p.Text), by+round*255)
					wantNet(t, fmt.Sprint(n, at, by), got, e, hurtByHand(l, n, at, 1+by%255))
				}
			}
		}
	}
}

func TestHurtByTheGreatest(t *testing.T) {
	l := []api.Packet{to(1, "abcdefg")}
	for _, at := range []int{math.MaxInt - 1, math.MaxInt, 1 << 31, 1<<32 + 3} {
		for _, by := range []int{math.MaxInt - 1, math.MaxInt, 1 << 31, 1<<32 - 1} {
			got, e := Hurt(l, 0, at, by)
			wantNet(t, fmt.Sprint(at, by), got, e, hurtByHand(l, 0, at%7, 1+by%255))
		}
	}
}

func TestHurtLongest(t *testing.T) {
	l := []api.Packet{to(1, strings.Repeat("x", 709))}
	for _, at := range []int{0, 255, 256, 700, 708, 709, 710, 1 << 20} {
		got, e := Hurt(l, 0, at, 5)
		wantNet(t, fmt.Sprint("at ", at), got, e, hurtByHand(l, 0, at%709, 6))
	}
}

func TestHurtOfWhatCannotBeHurt(t *testing.T) {
	for _, p := range []api.Packet{to(1, ""), from(1, ""), {To: 1, Text: "xy", Hurt: true}, {From: 1, Hurt: true}} {
		got, e := Hurt([]api.Packet{to(2, "a"), p}, 1, 0, 0)
		wantRefused(t, fmt.Sprint(p), got, e, api.ErrState)
		got, e = Hurt([]api.Packet{to(2, "a"), p}, 0, 0, 0)
		wantNet(t, "another one", got, e, []api.Packet{{To: 2, Text: "b", Hurt: true}, p})
	}
	once, e := Hurt(row(2), 1, 3, 3)
	if e != api.OK {
		t.Fatal(e)
	}
	got, e := Hurt(once, 1, 3, 3)
	wantRefused(t, "hurt once more", got, e, api.ErrState)
}

func TestHurtBelowZero(t *testing.T) {
	for _, n := range []int{-1, 0, 3, 4} { // packet 3 is hurt, packet 4 is none
		for _, c := range [][2]int{{-1, 0}, {0, -1}, {-1, -1}, {math.MinInt, 0}, {0, math.MinInt}, {-255, 0}, {0, -255}} {
			got, e := Hurt(row(4), n, c[0], c[1])
			wantRefused(t, fmt.Sprint(n, c), got, e, api.ErrForm)
		}
	}
}

// R4: a net that may not be is told ahead of all, then that a packet is not there.

func TestPickDoubleHurtOfNoNet(t *testing.T) {
	for i, l := range badNets() {
		for _, n := range []int{-1, 0, len(l) - 1, len(l)} {
			p, rest, e := Pick(l, n)
			wantRefused(t, fmt.Sprint("Pick of net ", i), rest, e, api.ErrForm)
			if p != (api.Packet{}) {
				t.Errorf("Pick of net %d: %v", i, p)
			}
			got, e := Double(l, n)
			wantRefused(t, fmt.Sprint("Double of net ", i), got, e, api.ErrForm)
			got, e = Hurt(l, n, 0, 0)
			wantRefused(t, fmt.Sprint("Hurt of net ", i), got, e, api.ErrForm)
		}
	}
}

func TestPickDoubleHurtOfNoPacket(t *testing.T) {
	for _, size := range []int{0, 1, 4, 40} {
		for _, n := range []int{math.MinInt, -40, -1, size, size + 1, math.MaxInt} {
			p, rest, e := Pick(row(size), n)
			wantRefused(t, fmt.Sprint("Pick of ", n), rest, e, api.ErrNone)
			if p != (api.Packet{}) {
				t.Errorf("Pick of %d: %v", n, p)
			}
			got, e := Double(row(size), n)
			wantRefused(t, fmt.Sprint("Double of ", n), got, e, api.ErrNone)
			got, e = Hurt(row(size), n, 0, 0)
			wantRefused(t, fmt.Sprint("Hurt of ", n), got, e, api.ErrNone)
		}
	}
}

// P13.3

func TestReadOfMakeIsIt(t *testing.T) {
	for i, m := range messages() {
		for end := 1; end <= api.MaxSites; end++ {
			for _, way := range [][2]int{{end, 0}, {0, end}} {
				p, e := Make(way[0], way[1], m)
				got, f := Read(p)
				if e != api.OK || f != api.OK || !sameMsg(got, m) || p.To != way[0] || p.From != way[1] {
					t.Errorf("message %d, %v: %v, %v, %v", i, way, got, e, f)
				}
			}
		}
	}
}

// No other length of a frame has a frame's bytes with the same bytes in all: of what Make tells nothing that was hurt is read.
func TestHurtPacketIsNotRead(t *testing.T) {
	for i, m := range messages() {
		p, _ := Make(0, 1, m)
		for at := range len(p.Text) {
			for by := 0; by < 255; by += 1 + len(p.Text)/30 {
				l, e := Hurt([]api.Packet{p}, 0, at, by)
				if e != api.OK || len(l) != 1 {
					t.Fatalf("message %d at %d by %d: %v", i, at, by, e)
				}
				if got, e := Read(l[0]); e != api.ErrBad || !isZero(got) {
					t.Errorf("message %d at %d by %d: %v, %v; want ErrBad alone", i, at, by, got, e)
				}
			}
		}
	}
}

// A net by many calls, held against a plain list.
func TestNetOfManyCalls(t *testing.T) {
	var got, want []api.Packet
	made := uint32(1)
	next := func(n int) int {
		made = made*1664525 + 1013904223
		return int(made>>8) % n
	}
	for range 20000 {
		var e api.Errno
		n := next(len(want) + 1)
		switch next(4) {
		case 0:
			p := row(42)[next(40):][:next(3)]
			want = append(want, p...)
			want = want[:min(len(want), api.MaxNet)]
			got, e = Send(got, p...)
		case 1:
			if n == len(want) {
				continue
			}
			var p api.Packet
			p, got, e = Pick(got, n)
			if p != want[n] {
				t.Fatalf("packet %d: %v; want %v", n, p, want[n])
			}
			want = slices.Delete(want, n, n+1)
		case 2:
			if n == len(want) || len(want) == api.MaxNet {
				continue
			}
			want = append(want, want[n])
			got, e = Double(got, n)
		case 3:
			if n == len(want) || want[n].Hurt {
				continue
			}
			at, by := next(1000), next(1000)
			want = hurtByHand(want, n, at%len(want[n].Text), 1+by%255)
			got, e = Hurt(got, n, at, by)
		}
		if e != api.OK || !slices.Equal(got, want) {
			t.Fatalf("%v, %v; want %v", got, e, want)
		}
	}
}

// R2

// calls are all that tell a net, of packets and nets of which nothing is refused.
func calls(l []api.Packet, p ...api.Packet) map[string][]api.Packet {
	sent, _ := Send(l, p...)
	nothing, _ := Send(l)
	_, rest, _ := Pick(l, 0)
	_, last, _ := Pick(l, len(l)-1)
	twice, _ := Double(l, 1)
	hurt, _ := Hurt(l, 0, 0, 0)
	alone, _ := Send(nil, l...)
	return map[string][]api.Packet{"Send": sent, "Send of none": nothing, "Pick": rest, "Pick of the last": last, "Double": twice, "Hurt": hurt, "Send to none": alone}
}

func TestHandedInIsNotChanged(t *testing.T) {
	// Room behind the net and the packets, which is not the program's.
	l, p := row(9)[:5], row(20)[9:11]
	all, more := slices.Clone(l[:9]), slices.Clone(p[:cap(p)])
	calls(l, p...)
	for _, n := range []int{-1, 9} {
		Pick(l, n)
		Double(l, n)
		Hurt(l, n, 0, 0)
	}
	if !slices.Equal(l[:9], all) || !slices.Equal(p[:cap(p)], more) {
		t.Errorf("%v, %v", l[:9], p[:cap(p)])
	}
	m := messages()[7]
	was := fmt.Sprint(m)
	Make(0, 1, m)
	if fmt.Sprint(m) != was {
		t.Errorf("%v; was %v", m, was)
	}
}

// scribble writes into all of l, its spare room too.
func scribble(l []api.Packet) {
	for i := range l[:cap(l)] {
		l[:cap(l)][i] = to(4, "scribbled")
	}
}

func TestAnswersAreNotShared(t *testing.T) {
	l, p := row(9)[:5], row(20)[9:11]
	all, more := slices.Clone(l[:9]), slices.Clone(p[:cap(p)])
	want := calls(slices.Clone(l), slices.Clone(p)...)
	for name := range want {
		got := calls(l, p...)
		scribble(got[name])
		if !slices.Equal(l[:9], all) || !slices.Equal(p[:cap(p)], more) {
			t.Fatalf("%s is what was handed in", name)
		}
		for other := range want {
			if other != name && !slices.Equal(got[other], want[other]) {
				t.Errorf("%s is what %s tells", name, other)
			}
		}
	}
	scribble(l[:9])
	got := calls(all[:5], p...)
	for name := range want {
		if !slices.Equal(got[name], want[name]) {
			t.Errorf("%s: %v; want %v", name, got[name], want[name])
		}
	}
}

func TestReadAnswersAreNotShared(t *testing.T) {
	p, _ := Make(1, 0, messages()[7])
	a, _ := Read(p)
	b, _ := Read(p)
	for i := range a.Ops {
		for k := range a.Ops[i].Gone[:cap(a.Ops[i].Gone)] {
			a.Ops[i].Gone[:cap(a.Ops[i].Gone)][k] = el(8, 8, 8)
		}
	}
	for i := range a.Ops[:cap(a.Ops)] {
		a.Ops[:cap(a.Ops)][i] = api.Op{}
	}
	c, _ := Read(p)
	if !sameMsg(b, messages()[7]) || !sameMsg(c, messages()[7]) {
		t.Errorf("%v, %v", b, c)
	}
}

// R1

func TestSameCallTellsTheSame(t *testing.T) {
	for i, m := range messages() {
		p, e := Make(1, 0, m)
		q, f := Make(1, 0, m)
		a, _ := Read(p)
		b, _ := Read(q)
		if p != q || e != f || !sameMsg(a, b) {
			t.Errorf("message %d: %v, %v", i, p, q)
		}
	}
}
