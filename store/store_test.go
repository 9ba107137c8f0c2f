package store

import (
	"fmt"
	"math"
	"slices"
	"strings"
	"testing"

	"lectionary/api"
	"lectionary/disk"
	"lectionary/number"
	"lectionary/pack"
	"lectionary/seal"
)

const zero = "\x00"

var begin api.Elem

func el(site, seq, i int) api.Elem { return api.Elem{Site: site, Seq: seq, I: i} }

func edit(site, seq int, after api.Elem, s string, gone ...api.Elem) api.Op {
	return api.Op{Site: site, Seq: seq, Kind: api.KindEdit, After: after, Text: s, Gone: gone}
}

func toggle(site, seq, of, num, gen int) api.Op {
	return api.Op{Site: site, Seq: seq, Kind: api.KindToggle, Of: of, Num: num, Gen: gen}
}

func join(nonce int) api.Entry { return api.Entry{Join: true, Nonce: nonce} }
func of(o api.Op) api.Entry    { return api.Entry{Op: o} }

// with is x after a change.
func with(x api.Entry, change func(x *api.Entry)) api.Entry {
	change(&x)
	return x
}

// sec is a sector of one letter.
func sec(c string) string { return strings.Repeat(c, 32) }

// up is s with bytes 0 up to a multiple of 32.
func up(s string) string {
	for len(s)%32 != 0 {
		s += zero
	}
	return s
}

// cutUp is s in sectors.
func cutUp(s string) []string {
	var l []string
	for ; s != ""; s = s[32:] {
		l = append(l, s[:32])
	}
	return l
}

// byHand lays out what an entry's frame has, as the words say it.
func byHand(x api.Entry) string {
	if x.Join {
		n, _ := number.Put(x.Nonce)
		return "\x01" + n
	}
	o, _ := pack.Op(x.Op)
	return zero + o
}

// goes is an entry of an op that has n bytes with the mark: from 10 on; some elements go, of three bytes each, or of four.
func goes(t *testing.T, n int) api.Entry {
	t.Helper()
	seq, width := 1, 3
	if n > 300 {
		seq, width = 128, 4
	}
	for letters := 1; letters <= 12; letters++ {
		var l []api.Elem
		for k := range (n - 9 - letters) / width {
			l = append(l, el(2, seq+k/12, k%12))
		}
		if x := of(edit(1, 1, begin, strings.Repeat("a", letters), l...)); len(byHand(x)) == n {
			return x
		}
	}
	t.Fatalf("no op of %d bytes", n)
	return api.Entry{}
}

// knownEntries are entries with their bytes, written out by hand.
var knownEntries = []struct {
	x     api.Entry
	bytes string
}{
	{join(1), up("\x02\x01\x1f\x1c\x50\x01\x01")},
	{join(5), up("\x02\x01\x1f\x1c\x54\x01\x05")},
	{join(api.MaxNum), up("\x06" + checked("\x06", "\x01\x80\x80\x80\x80\x01") + "\x01\x80\x80\x80\x80\x01")},
	{api.Entry{Join: true, Nonce: 300, Op: api.Op{Gone: []api.Elem{}}}, up("\x03" + checked("\x03", "\x01\xac\x02") + "\x01\xac\x02")},
	{of(toggle(1, 1, 2, 1, 0)), up("\x07" + checked("\x07", "\x00\x01\x01\x02\x02\x01\x00") + "\x00\x01\x01\x02\x02\x01\x00")},
	{of(edit(1, 1, begin, "é")), up("\x0b" + checked("\x0b", "\x00\x01\x01\x01\x00\x00\x00\x02\xc3\xa9\x00") + "\x00\x01\x01\x01\x00\x00\x00\x02\xc3\xa9\x00")},
	{of(edit(8, api.MaxNum, el(3, 300, 11), "xyz", el(2, 127, 1), el(2, 128, 0))),
		up("\x18" + checked("\x18", manyNumbers) + manyNumbers)},
}

// manyNumbers is what a frame has of an op whose numbers take one byte, two, five.
const manyNumbers = "\x00\x08\x80\x80\x80\x80\x01\x01\x03\xac\x02\x0b\x03xyz\x02\x02\x7f\x01\x02\x80\x01\x00"

// checked works a check's bytes out of a frame's size and text.
func checked(size, s string) string {
	h := uint64(1)
	for _, c := range []byte(size + s) {
		h = (h*263 + uint64(c) + 7) % 4294967291
	}
	return string([]byte{byte(h >> 24), byte(h >> 16), byte(h >> 8), byte(h)})
}

// someEntries are some of all kinds and lengths.
func someEntries(t *testing.T) []api.Entry {
	l := []api.Entry{join(1), join(127), join(128), join(api.MaxNum - 1), join(api.MaxNum),
		of(toggle(1, 1, 2, 1, 0)), of(toggle(8, api.MaxNum, 7, api.MaxNum, api.MaxNum)),
		of(edit(1, 1, begin, "a")), of(edit(1, 2, el(1, 1, 0), "\n~", el(1, 1, 0))), of(edit(1, 1, begin, "", el(2, 1, 0))),
		of(edit(2, 1, begin, strings.Repeat("\U0010ffff", 12)))}
	for _, n := range []int{10, 26, 27, 28, 58, 59, 60, 122, 123, 127, 128, 154, 155, 300, 666, 667, 698, 699, 700} {
		l = append(l, goes(t, n))
	}
	return l
}

// badEntries are entries that may not be: of each thing that the words ask for one that lacks it.
func badEntries() []api.Entry {
	o := edit(1, 1, begin, "a", el(2, 1, 0))
	l := []api.Entry{
		{}, {Nonce: 5}, {Join: true}, join(0), join(-1), join(api.MaxNum + 1), join(math.MaxInt), join(math.MinInt),
		{Join: true, Nonce: 1, Op: o}, {Join: true, Nonce: 1, Op: toggle(1, 1, 2, 1, 0)}, {Join: true, Op: o},
		{Nonce: 1, Op: o}, {Nonce: -1, Op: o}, {Nonce: api.MaxNum, Op: toggle(1, 1, 2, 1, 0)},
		of(edit(0, 1, begin, "a")), of(edit(9, 1, begin, "a")), of(edit(1, 0, begin, "a")), of(edit(1, api.MaxNum+1, begin, "a")),
		of(edit(1, 1, begin, "")), of(edit(1, 1, begin, "thirteenrunes")), of(edit(1, 1, begin, "\t")), of(edit(1, 1, begin, "\xff")),
		of(edit(1, 1, el(1, 1, 0), "a")), of(edit(1, 1, begin, "a", begin)), of(edit(1, 1, begin, "a", el(2, 1, 1), el(2, 1, 0))),
		of(toggle(1, 1, 1, 1, 0)), of(toggle(1, 1, 2, 1, -1)), of(toggle(1, 1, 9, 1, 0)),
		of(api.Op{Site: 1, Seq: 1}), of(api.Op{Site: 1, Seq: 1, Kind: 3}),
	}
	for _, change := range []func(x *api.Entry){
		func(x *api.Entry) { x.Op.Site = 1 }, func(x *api.Entry) { x.Op.Seq = 1 }, func(x *api.Entry) { x.Op.Kind = 1 },
		func(x *api.Entry) { x.Op.After.Site = 1 }, func(x *api.Entry) { x.Op.After.Seq = 1 }, func(x *api.Entry) { x.Op.After.I = 1 },
		func(x *api.Entry) { x.Op.Text = "a" }, func(x *api.Entry) { x.Op.Gone = []api.Elem{{}} },
		func(x *api.Entry) { x.Op.Of = 1 }, func(x *api.Entry) { x.Op.Num = 1 }, func(x *api.Entry) { x.Op.Gen = 1 },
		func(x *api.Entry) { x.Op.Gen = -1 },
	} {
		l = append(l, with(join(7), change))
	}
	// One that would be too long, too, were it of its form.
	var gone []api.Elem
	for k := range 200 {
		gone = append(gone, el(8, api.MaxNum-300+k, 3))
	}
	return append(l, of(edit(1, 0, begin, "a", gone...)), api.Entry{Nonce: 1, Op: edit(1, 1, begin, "a", gone...)})
}

// badDisks are some that may not be.
func badDisks() []api.Disk {
	return []api.Disk{
		{}, {Safe: []string{"x"}}, {Safe: []string{sec("x"), sec("x") + "x"}}, {Safe: slices.Repeat([]string{sec("x")}, 401)},
		{Safe: []string{sec("x")}, Wait: []api.Sector{{At: 1, Text: sec("y")}}}, {Safe: []string{sec("x")}, Wait: []api.Sector{{At: -1, Text: sec("y")}}},
		{Safe: []string{sec("x")}, Wait: []api.Sector{{At: 0, Text: "y"}}}, {Safe: []string{sec("x")}, Wait: waits(401)},
	}
}

// waits is n that wait for sector 0.
func waits(n int) []api.Sector {
	var l []api.Sector
	for k := range n {
		l = append(l, api.Sector{Text: fmt.Sprintf("%32d", k)})
	}
	return l
}

func isSame(a, b api.Disk) bool {
	return slices.Equal(a.Safe, b.Safe) && slices.Equal(a.Wait, b.Wait)
}

func isZeroDisk(d api.Disk) bool { return d.Safe == nil && d.Wait == nil }

// deep is a copy of d that shares nothing with it.
func deep(d api.Disk) api.Disk {
	return api.Disk{Safe: append([]string(nil), d.Safe...), Wait: append([]api.Sector(nil), d.Wait...)}
}

func sameEntry(a, b api.Entry) bool {
	x, y := a.Op, b.Op
	return a.Join == b.Join && a.Nonce == b.Nonce && x.Site == y.Site && x.Seq == y.Seq && x.Kind == y.Kind && x.After == y.After &&
		x.Text == y.Text && slices.Equal(x.Gone, y.Gone) && x.Of == y.Of && x.Num == y.Num && x.Gen == y.Gen
}

func wantLog(t *testing.T, what string, d api.Disk, want []api.Entry, end int) {
	t.Helper()
	l, at, e := Load(d)
	if e != api.OK || at != end || !slices.EqualFunc(l, want, sameEntry) {
		t.Errorf("%s: %.199v up to %d, %v; want %.199v up to %d", what, l, at, e, want, end)
	}
}

func wantDisk(t *testing.T, what string, got api.Disk, e api.Errno, want api.Disk) {
	t.Helper()
	if e != api.OK || !isSame(got, want) {
		t.Errorf("%s: %v, %v; want %v", what, got, e, want)
	}
}

func wantRefused(t *testing.T, what string, got api.Disk, next int, e, want api.Errno) {
	t.Helper()
	if e != want || !isZeroDisk(got) || next != 0 {
		t.Errorf("%s: %d and %d sectors, %d, %v; want %v alone", what, len(got.Safe), len(got.Wait), next, e, want)
	}
}

func mustNew(t *testing.T, room int) api.Disk {
	t.Helper()
	d, e := disk.New(room)
	if e != api.OK {
		t.Fatalf("New(%d): %v", room, e)
	}
	return d
}

func mustBytes(t *testing.T, x api.Entry) string {
	t.Helper()
	s, e := Bytes(x)
	if e != api.OK || s == "" {
		t.Fatalf("Bytes(%.99v): %v", x, e)
	}
	return s
}

func mustAppend(t *testing.T, d api.Disk, at int, l ...api.Entry) (api.Disk, int) {
	t.Helper()
	for _, x := range l {
		var e api.Errno
		if d, at, e = Append(d, at, x); e != api.OK {
			t.Fatalf("Append at %d: %v", at, e)
		}
	}
	return d, at
}

func mustSync(t *testing.T, d api.Disk) api.Disk {
	t.Helper()
	d, e := disk.Sync(d)
	if e != api.OK {
		t.Fatalf("Sync: %v", e)
	}
	return d
}

// logOf is a disk of room sectors with entries synced, and where the next one comes.
func logOf(t *testing.T, room int, l ...api.Entry) (api.Disk, int) {
	t.Helper()
	d, at := mustAppend(t, mustNew(t, room), 0, l...)
	return mustSync(t, d), at
}

// P15.1: Bytes

func TestBytesByHand(t *testing.T) {
	for _, c := range knownEntries {
		if s, e := Bytes(c.x); s != c.bytes || e != api.OK {
			t.Errorf("Bytes(%v) = %q, %v; want %q", c.x, s, e, c.bytes)
		}
	}
}

func TestBytesIsFrameAndBlanks(t *testing.T) {
	for _, x := range someEntries(t) {
		want := up(seal.Add(byHand(x)))
		if s, e := Bytes(x); s != want || e != api.OK {
			t.Errorf("Bytes(%.99v) = %q, %v; want %q", x, s, e, want)
		}
	}
}

func TestBytesOfEachLength(t *testing.T) {
	// A frame's size takes one byte up to 127, two from there on; the check four.
	for n, want := range map[int]int{10: 32, 26: 32, 27: 32, 28: 64, 59: 64, 60: 96, 123: 128, 124: 160, 127: 160, 128: 160, 154: 160, 155: 192, 666: 672, 667: 704, 698: 704, 699: 736, 700: 736} {
		s, e := Bytes(goes(t, n))
		if len(s) != want || e != api.OK {
			t.Errorf("%d in the frame: %d bytes, %v; want %d", n, len(s), e, want)
		}
	}
}

func TestBytesOfTooLong(t *testing.T) {
	for _, n := range []int{701, 702, 703, 710} {
		if s, e := Bytes(goes(t, n)); s != "" || e != api.ErrLimit {
			t.Errorf("%d in the frame: %d bytes, %v; want ErrLimit alone", n, len(s), e)
		}
	}
	var gone []api.Elem
	for k := range 200 {
		gone = append(gone, el(8, api.MaxNum-300+k, 3))
	}
	if s, e := Bytes(of(edit(1, 1, begin, "a", gone...))); s != "" || e != api.ErrLimit {
		t.Errorf("the longest op: %d bytes, %v; want ErrLimit alone", len(s), e)
	}
}

func TestBytesOfEntriesThatMayNotBe(t *testing.T) {
	for _, x := range badEntries() {
		if s, e := Bytes(x); s != "" || e != api.ErrForm {
			t.Errorf("Bytes(%.99v) = %q, %v; want ErrForm alone", x, s, e)
		}
	}
}

// P15.1: Load

func TestLoadOfBadDisks(t *testing.T) {
	for k, d := range badDisks() {
		if l, at, e := Load(d); l != nil || at != 0 || e != api.ErrForm {
			t.Errorf("disk %d: %v, %d, %v; want ErrForm alone", k, l, at, e)
		}
	}
}

func TestLoadOfEachEntry(t *testing.T) {
	for _, x := range someEntries(t) {
		s := cutUp(mustBytes(t, x))
		for _, rest := range [][]string{nil, {sec(zero)}, {sec("x")}, {sec("\xff"), sec(zero)}} {
			wantLog(t, "alone", api.Disk{Safe: slices.Concat(s, rest)}, []api.Entry{x}, len(s))
		}
		wantLog(t, "twice", api.Disk{Safe: slices.Concat(s, s)}, []api.Entry{x, x}, 2*len(s))
		wantLog(t, "behind another", api.Disk{Safe: slices.Concat(cutUp(mustBytes(t, join(9))), s, []string{sec("y")})}, []api.Entry{join(9), x}, 1+len(s))
		for k := range s[1:] {
			wantLog(t, "its first sectors alone", api.Disk{Safe: s[:k+1]}, nil, 0)
			wantLog(t, "one of its sectors blank", api.Disk{Safe: slices.Concat(s[:k+1], []string{sec(zero)}, s[k+2:])}, nil, 0)
		}
	}
}

func TestLoadOfAllEntries(t *testing.T) {
	var safe []string
	var all []api.Entry
	for _, x := range someEntries(t) {
		all = append(all, x)
		safe = append(safe, cutUp(mustBytes(t, x))...)
	}
	wantLog(t, "all", api.Disk{Safe: safe}, all, len(safe))
	full := slices.Repeat(cutUp(mustBytes(t, join(3))), 400)
	wantLog(t, "a full disk", api.Disk{Safe: full}, slices.Repeat([]api.Entry{join(3)}, 400), 400)
}

func TestLoadOfNone(t *testing.T) {
	x := mustBytes(t, join(5))
	for k, safe := range [][]string{
		{sec(zero)}, {sec("x")}, {sec("\x01")}, {sec("\xff"), x}, {sec(zero), x}, {sec("x"), x}, slices.Repeat([]string{sec(zero)}, 400),
	} {
		wantLog(t, fmt.Sprint("none ", k), api.Disk{Safe: safe}, nil, 0)
	}
	wantLog(t, "a new one", mustNew(t, 7), nil, 0)
}

// Frames that are whole, of what is no entry's bytes.
func TestLoadOfOtherFrames(t *testing.T) {
	o, _ := pack.Op(edit(1, 1, begin, "a"))
	for _, s := range []string{
		"", "\x00", "\x01", "\x02", "\x02\x05", "\x7f\x05", "\x05", "\x81\x00\x05", "\x80\x00" + o, "\x80", "\x82\x00\x05", // the mark
		"\x01\x00", "\x01\x80", "\x01\x85\x00", "\x01\x81\x80\x80\x80\x01", "\x01\xff\xff\xff\xff\x7f", // the nonce
		"\x01\x05\x00", "\x01\x05\x05", "\x01\x05" + o, "\x01" + o, // more behind it
		"\x00\x05", "\x00" + o + "\x00", "\x00" + o + o, "\x00" + o[1:], "\x00" + o[:len(o)-1], o, "\x00\x00" + o,
		"\x00\x81\x00" + o[1:], "\x00\x01\x01\x02\x01\x01\x00", "\x00\x09" + o[1:], "\x00\x01\x01\x01\x00\x00\x00\x00\x00", // the op
		strings.Repeat("x", 700), strings.Repeat(zero, 700), "\x01\x05" + strings.Repeat(zero, 22), "\x01\x05" + strings.Repeat(zero, 300),
	} {
		safe := cutUp(up(seal.Add(s)))
		wantLog(t, fmt.Sprintf("a frame of %.20q", s), api.Disk{Safe: safe}, nil, 0)
		wantLog(t, fmt.Sprintf("a frame of %.20q behind a join", s), api.Disk{Safe: append([]string{mustBytes(t, join(6))}, safe...)}, []api.Entry{join(6)}, 1)
	}
}

func TestLoadOfTooLongFrames(t *testing.T) {
	for _, n := range []int{701, 703} {
		s := byHand(goes(t, n))
		size, _ := number.Put(n)
		wantLog(t, fmt.Sprint(n), api.Disk{Safe: cutUp(up(size + checked(size, s) + s))}, nil, 0)
	}
	// The size in more bytes than it needs.
	wantLog(t, "a wide size", api.Disk{Safe: cutUp(up("\x82\x00" + checked("\x82\x00", "\x01\x05") + "\x01\x05"))}, nil, 0)
}

// Each byte of an entry, or of the bytes 0 behind it, that is another one: it is not there. A hurt size is in the check, too.
func TestLoadOfHurtEntries(t *testing.T) {
	for _, x := range []api.Entry{join(5), join(api.MaxNum), of(toggle(1, 1, 2, 1, 0)), of(edit(1, 1, begin, "a")), goes(t, 27), goes(t, 28), goes(t, 130)} {
		s := mustBytes(t, x)
		for i := range len(s) {
			for by := range 255 {
				b := []byte(s)
				b[i] += byte(by + 1)
				wantLog(t, fmt.Sprintf("%.50v, byte %d by %d", x, i, by+1), api.Disk{Safe: append(cutUp(string(b)), mustBytes(t, join(8)))}, nil, 0)
			}
		}
	}
}

func TestLoadOfSafeAlone(t *testing.T) {
	a, b := mustBytes(t, join(5)), mustBytes(t, join(6))
	for _, wait := range [][]api.Sector{{{At: 0, Text: sec("x")}}, {{At: 1, Text: b}}, {{At: 1, Text: sec(zero)}, {At: 0, Text: b}}, waits(400)} {
		wantLog(t, "one", api.Disk{Safe: []string{a, sec(zero)}, Wait: wait}, []api.Entry{join(5)}, 1)
		wantLog(t, "none", api.Disk{Safe: []string{sec(zero), a}, Wait: wait}, nil, 0)
	}
}

// P15.2: Append

func TestAppendPutsSectors(t *testing.T) {
	for _, x := range someEntries(t) {
		s := cutUp(mustBytes(t, x))
		for _, at := range []int{0, 1, 5, 30 - len(s)} {
			d := api.Disk{Safe: slices.Repeat([]string{sec("x")}, 30), Wait: waits(3)}
			want := deep(d)
			for k, b := range s {
				want.Wait = append(want.Wait, api.Sector{At: at + k, Text: b})
			}
			y, next, e := Append(d, at, x)
			wantDisk(t, fmt.Sprintf("%.50v at %d", x, at), y, e, want)
			if next != at+len(s) {
				t.Errorf("%.50v at %d: behind it %d; want %d", x, at, next, at+len(s))
			}
		}
	}
}

func TestAppendOfForm(t *testing.T) {
	good := mustNew(t, 3)
	for k, d := range badDisks() {
		for _, at := range []int{0, -1, 9} {
			for _, x := range []api.Entry{join(5), {}, goes(t, 701)} {
				y, next, e := Append(d, at, x)
				wantRefused(t, fmt.Sprintf("disk %d, at %d", k, at), y, next, e, api.ErrForm)
			}
		}
	}
	for _, x := range badEntries() {
		for _, at := range []int{0, -1, 3, math.MaxInt} {
			y, next, e := Append(good, at, x)
			wantRefused(t, fmt.Sprintf("%.50v at %d", x, at), y, next, e, api.ErrForm)
		}
	}
	for _, at := range []int{-1, -2, math.MinInt} {
		for _, x := range []api.Entry{join(5), goes(t, 701), goes(t, 700)} {
			y, next, e := Append(good, at, x)
			wantRefused(t, fmt.Sprint("at ", at), y, next, e, api.ErrForm)
		}
	}
}

func TestAppendOfTooLong(t *testing.T) {
	for _, d := range []api.Disk{mustNew(t, 1), mustNew(t, 400), {Safe: []string{sec(zero)}, Wait: waits(400)}} {
		for _, at := range []int{0, 1, 400, math.MaxInt} {
			y, next, e := Append(d, at, goes(t, 701))
			wantRefused(t, fmt.Sprint("at ", at), y, next, e, api.ErrLimit)
		}
	}
}

func TestAppendWithoutRoom(t *testing.T) {
	for _, x := range someEntries(t) {
		n := len(cutUp(mustBytes(t, x)))
		d := mustNew(t, 25)
		for _, at := range []int{25 - n + 1, 24 + n, 25, 26, 400, math.MaxInt - n, math.MaxInt - 1, math.MaxInt} {
			y, next, e := Append(d, at, x)
			wantRefused(t, fmt.Sprintf("%d sectors at %d", n, at), y, next, e, api.ErrFull)
		}
		if _, next, e := Append(d, 25-n, x); next != 25 || e != api.OK {
			t.Errorf("%d sectors just there: %d, %v", n, next, e)
		}
		if n > 1 {
			y, next, e := Append(mustNew(t, n-1), 0, x)
			wantRefused(t, fmt.Sprintf("%d sectors on a smaller disk", n), y, next, e, api.ErrFull)
		}
	}
}

func TestAppendWhereTooManyWait(t *testing.T) {
	for _, x := range someEntries(t) {
		n := len(cutUp(mustBytes(t, x)))
		d := mustNew(t, 25)
		d.Wait = waits(400 - n)
		if y, next, e := Append(d, 0, x); len(y.Wait) != 400 || next != n || e != api.OK {
			t.Errorf("%d sectors, just room: %d wait, %d, %v", n, len(y.Wait), next, e)
		}
		for k := range n {
			d.Wait = waits(400 - k)
			y, next, e := Append(d, 0, x)
			wantRefused(t, fmt.Sprintf("%d sectors, room for %d", n, k), y, next, e, api.ErrFull)
		}
	}
}

// P15.2: Clean

func TestClean(t *testing.T) {
	a, b, c, o := sec("a"), sec("b"), sec("c"), sec(zero)
	almost := o[1:] + "\x01"
	for k, x := range []struct {
		d    api.Disk
		at   int
		want []string
	}{
		{api.Disk{Safe: []string{a, o, b, c}}, 0, []string{o, o, o, o}},
		{api.Disk{Safe: []string{a, o, b, c}}, 1, []string{a, o, o, o}},
		{api.Disk{Safe: []string{a, o, b, c}}, 2, []string{a, o, o, o}},
		{api.Disk{Safe: []string{a, o, b, c}}, 3, []string{a, o, b, o}},
		{api.Disk{Safe: []string{a, o, b, c}}, 4, []string{a, o, b, c}},
		{api.Disk{Safe: []string{a, o, b, c}}, 5, []string{a, o, b, c}},
		{api.Disk{Safe: []string{a, o, b, c}}, math.MaxInt, []string{a, o, b, c}},
		{api.Disk{Safe: []string{almost, almost}}, 1, []string{almost, o}},
		{api.Disk{Safe: []string{o, o}}, 0, []string{o, o}},
		// What waits is done ahead: where Safe is blank nothing is put behind it.
		{api.Disk{Safe: []string{a, o, b}, Wait: []api.Sector{{At: 0, Text: c}, {At: 1, Text: c}, {At: 2, Text: c}}}, 0, []string{o, c, o}},
		{api.Disk{Safe: []string{a, o, b}, Wait: []api.Sector{{At: 0, Text: c}, {At: 1, Text: c}, {At: 2, Text: c}}}, 1, []string{c, c, o}},
		{api.Disk{Safe: []string{a, o, b}, Wait: []api.Sector{{At: 0, Text: c}, {At: 2, Text: o}}}, 3, []string{c, o, o}},
		{api.Disk{Safe: []string{a, o, b}, Wait: []api.Sector{{At: 2, Text: o}, {At: 0, Text: o}}}, 0, []string{o, o, o}},
	} {
		was := deep(x.d)
		y, e := Clean(x.d, x.at)
		wantDisk(t, fmt.Sprint("case ", k), y, e, api.Disk{Safe: x.want})
		if !isSame(x.d, was) {
			t.Errorf("case %d: what was handed in is another one", k)
		}
	}
}

func TestCleanOfForm(t *testing.T) {
	for k, d := range badDisks() {
		for _, at := range []int{0, 1, -1, 9} {
			y, e := Clean(d, at)
			wantRefused(t, fmt.Sprintf("disk %d, at %d", k, at), y, 0, e, api.ErrForm)
		}
	}
	for _, at := range []int{-1, -2, math.MinInt} {
		for _, d := range []api.Disk{mustNew(t, 3), {Safe: []string{sec("x")}, Wait: waits(400)}} {
			y, e := Clean(d, at)
			wantRefused(t, fmt.Sprint("at ", at), y, 0, e, api.ErrForm)
		}
	}
}

func TestCleanWhereTooManyWait(t *testing.T) {
	d := api.Disk{Safe: []string{sec("x"), sec(zero), sec("y"), sec("z")}}
	last := fmt.Sprintf("%32d", 399)
	for at, n := range []int{3, 2, 2, 1, 0} {
		d.Wait = waits(400 - n)
		if y, e := Clean(d, at); e != api.OK || len(y.Wait) != 0 {
			t.Errorf("at %d, just room: %d wait, %v", at, len(y.Wait), e)
		}
		for k := range n {
			d.Wait = waits(400 - k)
			y, e := Clean(d, at)
			wantRefused(t, fmt.Sprintf("at %d, room for %d", at, k), y, 0, e, api.ErrFull)
		}
	}
	d.Wait = waits(400)
	y, e := Clean(d, 4)
	wantDisk(t, "nothing to put", y, e, api.Disk{Safe: []string{last, sec(zero), sec("y"), sec("z")}})
	full := api.Disk{Safe: slices.Repeat([]string{sec("x")}, 400)}
	y, e = Clean(full, 0)
	wantDisk(t, "a full disk", y, e, mustNew(t, 400))
	full.Wait = waits(1)
	y, e = Clean(full, 0)
	wantRefused(t, "a full disk where one waits", y, 0, e, api.ErrFull)
}

// P15.3: what was synced is loaded, whatever stays of those behind.

// eachKeep goes through all that may become of n sectors.
func eachKeep(n int, do func(keep []int)) {
	keep := make([]int, n)
	var try func(k int)
	try = func(k int) {
		if k == n {
			do(keep)
			return
		}
		for keep[k] = range 3 {
			try(k + 1)
		}
	}
	try(0)
}

// wholes is how many of l are wholly on the sectors, one behind the other, from at on.
func wholes(t *testing.T, safe []string, at int, l []api.Entry) int {
	t.Helper()
	s := strings.Join(safe[at:], "")
	for k, x := range l {
		b := mustBytes(t, x)
		if len(s) < len(b) || s[:len(b)] != b {
			return k
		}
		s = s[len(b):]
	}
	return len(l)
}

func wantCleaned(t *testing.T, what string, d api.Disk, l []api.Entry, at int) {
	t.Helper()
	y, e := Clean(d, at)
	blanks := slices.Repeat([]string{sec(zero)}, len(d.Safe)-at)
	wantDisk(t, what, y, e, api.Disk{Safe: slices.Concat(d.Safe[:at], blanks)})
	wantLog(t, what+", cleaned", y, l, at)
	if at+3 <= len(d.Safe) {
		more := []api.Entry{join(77), of(edit(1, 9, begin, strings.Repeat("é", 10)))}
		z, next := mustAppend(t, y, at, more...)
		wantLog(t, what+", cleaned and two more", mustSync(t, z), slices.Concat(l, more), next)
	}
}

func TestSyncedEntriesStay(t *testing.T) {
	ahead := []api.Entry{join(5), of(edit(1, 1, begin, "a"))}
	old := []api.Entry{join(200), join(201), goes(t, 50), join(202), goes(t, 40), join(203)}
	for _, behind := range [][]api.Entry{{join(6)}, {goes(t, 27)}, {goes(t, 28)}, {goes(t, 40)}, {goes(t, 59)}, {join(6), join(7), join(8)},
		{goes(t, 40), join(6)}, {join(6), goes(t, 50)}, {goes(t, 100)}, {goes(t, 28), goes(t, 30)}} {
		for _, were := range [][]api.Entry{nil, old, slices.Concat(behind, behind)} {
			d, end := logOf(t, 14, ahead...)
			d, _ = mustAppend(t, d, end, were...)
			d = mustSync(t, d)
			y, _ := mustAppend(t, d, end, behind...)
			eachKeep(len(y.Wait), func(keep []int) {
				x, e := disk.Crash(y, keep...)
				if e != api.OK {
					t.Fatalf("Crash: %v", e)
				}
				l, at, e := Load(x)
				if e != api.OK || len(l) < 2 || !slices.EqualFunc(l[:2], ahead, sameEntry) {
					t.Fatalf("keep %v: %.199v, %d, %v", keep, l, at, e)
				}
				n := wholes(t, x.Safe, end, behind)
				if len(l) < 2+n || were == nil && len(l) != 2+n || !slices.EqualFunc(l[2:2+n], behind[:n], sameEntry) {
					t.Fatalf("keep %v: %.199v; want %d of those behind", keep, l, n)
				}
				what := fmt.Sprint("keep ", keep)
				wantCleaned(t, what, x, l, at)
				wantCleaned(t, what+", at those ahead", x, ahead, end)
			})
		}
	}
}

// numbers are made up, the same ones in each run.
type numbers uint64

func (r *numbers) next(n int) int {
	*r = *r*6364136223846793005 + 1442695040888963407
	return int(uint64(*r)>>33) % n
}

// TestManyActs appends, syncs, and crashes: what was synced is loaded, with as many of the rest as are whole.
func TestManyActs(t *testing.T) {
	some := someEntries(t)
	for seed := range 80 {
		r := numbers(seed)
		room := 5 + r.next(60)
		d, at := mustNew(t, room), 0
		var synced, waiting []api.Entry
		end := 0
		for step := range 60 {
			what := fmt.Sprintf("seed %d, step %d", seed, step)
			wantLog(t, what, d, synced, end)
			switch r.next(6) {
			case 0:
				d, synced, waiting, end = mustSync(t, d), slices.Concat(synced, waiting), nil, at
			case 1:
				keep := make([]int, r.next(len(d.Wait)+2))
				for k := range keep {
					keep[k] = r.next(5) - r.next(2)
				}
				x, _ := disk.Crash(d, keep...)
				synced = slices.Concat(synced, waiting[:wholes(t, x.Safe, end, waiting)])
				waiting, end = nil, 0
				for _, y := range synced {
					end += len(mustBytes(t, y)) / 32
				}
				wantLog(t, what+", crashed", x, synced, end)
				at = end
				var e api.Errno
				if d, e = Clean(x, at); e != api.OK {
					t.Fatalf("%s: Clean: %v", what, e)
				}
			default:
				x := some[r.next(len(some))]
				n := len(mustBytes(t, x)) / 32
				y, next, e := Append(d, at, x)
				if n > room-at {
					wantRefused(t, what, y, next, e, api.ErrFull)
					continue
				}
				if next != at+n || e != api.OK {
					t.Fatalf("%s: behind it %d, %v; want %d", what, next, e, at+n)
				}
				d, at, waiting = y, next, append(waiting, x)
			}
		}
	}
}

// R2: what is handed in is not changed, and what is told is new.

func TestNothingIsShared(t *testing.T) {
	x := goes(t, 40)
	d, at := logOf(t, 9, join(5), x)
	d.Wait = append(make([]api.Sector, 0, 50), waits(2)...)
	was, gone := deep(d), slices.Clone(x.Op.Gone)
	y, _, _ := Append(d, at, x)
	z, _, _ := Append(d, at, join(6))
	c, _ := Clean(d, 1)
	l, _, _ := Load(d)
	k, _, _ := Load(d)
	scribble(y)
	for i, want := range []api.Disk{was, was} {
		if got := []api.Disk{d, {Safe: z.Safe, Wait: z.Wait[:2]}}[i]; !isSame(got, want) {
			t.Errorf("disk %d is another one: %v", i, got)
		}
	}
	if z.Wait[2].Text != mustBytes(t, join(6)) {
		t.Errorf("what waits is another one: %q", z.Wait[2].Text)
	}
	scribble(c)
	scribble(z)
	for i := range l[1].Op.Gone[:cap(l[1].Op.Gone)] {
		l[1].Op.Gone[:cap(l[1].Op.Gone)][i].I = 11
	}
	l[0] = api.Entry{}
	if !isSame(d, was) || !slices.Equal(x.Op.Gone, gone) || !sameEntry(k[1], x) || !sameEntry(k[0], join(5)) {
		t.Errorf("what was handed in, or told, is another one")
	}
	wantLog(t, "once more", d, []api.Entry{join(5), x}, at)
}

// scribble writes all over d, and what is spare behind it.
func scribble(d api.Disk) {
	for i := range d.Safe[:cap(d.Safe)] {
		d.Safe[:cap(d.Safe)][i] = "q"
	}
	for i := range d.Wait[:cap(d.Wait)] {
		d.Wait[:cap(d.Wait)][i] = api.Sector{At: 99, Text: "q"}
	}
}

// The example: a new disk has none.
func TestExamples(t *testing.T) {
	for _, n := range []int{1, 32, 400} {
		wantLog(t, fmt.Sprint(n), mustNew(t, n), nil, 0)
	}
}
