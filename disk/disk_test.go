package disk

import (
	"fmt"
	"math"
	"slices"
	"strings"
	"testing"

	"lectionary/api"
)

// sec is a sector of one letter.
func sec(c string) string { return strings.Repeat(c, 32) }

// halves is a sector whose first half is of a, the rest of b.
func halves(a, b string) string { return strings.Repeat(a, 16) + strings.Repeat(b, 16) }

const zero = "\x00"

// many is n sectors that wait, each one another text, on a disk of room sectors.
func many(n, room int) []api.Sector {
	var l []api.Sector
	for k := range n {
		l = append(l, api.Sector{At: k % room, Text: fmt.Sprintf("%-32d", k)})
	}
	return l
}

// safes is n sectors that last, each one another text.
func safes(n int) []string {
	var l []string
	for k := range n {
		l = append(l, fmt.Sprintf("safe%28d", k))
	}
	return l
}

// small is a disk of three sectors, where four wait.
func small() api.Disk {
	return api.Disk{Safe: []string{sec("x"), sec("y"), sec("z")}, Wait: []api.Sector{
		{At: 1, Text: sec("a")}, {At: 0, Text: sec("b")}, {At: 1, Text: sec("c")}, {At: 2, Text: sec("d")},
	}}
}

// badDisks are disks that may not be: each edge, at each place.
func badDisks() []api.Disk {
	l := []api.Disk{
		{},
		{Safe: []string{}},
		{Wait: []api.Sector{{At: 0, Text: sec("w")}}},
		{Safe: safes(401)},
		{Safe: safes(1000)},
		{Safe: safes(2), Wait: many(401, 2)},
		{Safe: safes(400), Wait: many(401, 400)},
		{Safe: safes(401), Wait: many(401, 400)},
	}
	for _, s := range []string{"", "a", sec("a")[1:], sec("a") + "a", sec("ä"), sec("a") + sec("b"), zero} {
		for k := range 3 {
			d := small()
			d.Safe[k] = s
			l = append(l, d)
		}
		for k := range 4 {
			d := small()
			d.Wait[k].Text = s
			l = append(l, d)
		}
	}
	for _, at := range []int{-1, 3, 4, 400, math.MinInt, math.MaxInt} {
		for k := range 4 {
			d := small()
			d.Wait[k].At = at
			l = append(l, d)
		}
	}
	return l
}

// goodDisks are some at the edges of what may be.
func goodDisks() []api.Disk {
	return []api.Disk{
		small(),
		{Safe: []string{sec("x")}},
		{Safe: []string{sec("x")}, Wait: []api.Sector{}},
		{Safe: []string{sec("\xff")}, Wait: []api.Sector{{At: 0, Text: sec("\x80")}}},
		{Safe: safes(400)},
		{Safe: safes(1), Wait: many(400, 1)},
		{Safe: safes(400), Wait: many(400, 400)},
		{Safe: safes(400), Wait: many(399, 400)},
		{Safe: safes(7), Wait: many(23, 7)},
	}
}

func isSame(a, b api.Disk) bool {
	return slices.Equal(a.Safe, b.Safe) && slices.Equal(a.Wait, b.Wait)
}

func isZero(d api.Disk) bool { return d.Safe == nil && d.Wait == nil }

// deep is a copy of d that shares nothing with it.
func deep(d api.Disk) api.Disk {
	return api.Disk{Safe: append([]string(nil), d.Safe...), Wait: append([]api.Sector(nil), d.Wait...)}
}

func wantDisk(t *testing.T, what string, got api.Disk, e api.Errno, want api.Disk) {
	t.Helper()
	if e != api.OK || !isSame(got, want) {
		t.Errorf("%s: %v, %v; want %v", what, got, e, want)
	}
}

func wantRefused(t *testing.T, what string, got api.Disk, e, want api.Errno) {
	t.Helper()
	if e != want || !isZero(got) {
		t.Errorf("%s: %d and %d sectors, %v; want %v alone", what, len(got.Safe), len(got.Wait), e, want)
	}
}

// P14.1: New

func TestNew(t *testing.T) {
	for _, n := range []int{1, 2, 32, 399, 400} {
		d, e := New(n)
		if e != api.OK || len(d.Safe) != n || len(d.Wait) != 0 || Check(d) != api.OK {
			t.Fatalf("%d: %d and %d sectors, %v", n, len(d.Safe), len(d.Wait), e)
		}
		for k, s := range d.Safe {
			if s != sec(zero) {
				t.Errorf("%d: sector %d is %q", n, k, s)
			}
		}
	}
}

func TestNewOfNoRoom(t *testing.T) {
	for _, n := range []int{0, -1, -400, 401, 1 << 40, math.MaxInt, math.MinInt} {
		d, e := New(n)
		wantRefused(t, fmt.Sprint(n), d, e, api.ErrForm)
	}
}

// P14.1: Check

func TestCheck(t *testing.T) {
	for k, d := range goodDisks() {
		if e := Check(d); e != api.OK {
			t.Errorf("good %d: %v", k, e)
		}
	}
	for k, d := range badDisks() {
		if e := Check(d); e != api.ErrForm {
			t.Errorf("bad %d: %v", k, e)
		}
	}
}

func TestBadDisksAreRefusedAheadOfAll(t *testing.T) {
	for k, d := range badDisks() {
		what := fmt.Sprint("disk ", k)
		for _, at := range []int{0, -1, 3, 999} {
			for _, s := range []string{sec("s"), "s"} {
				y, e := Put(d, at, s)
				wantRefused(t, what+", Put", y, e, api.ErrForm)
			}
			if s, e := Read(d, at); s != "" || e != api.ErrForm {
				t.Errorf("%s, Read: %q, %v", what, s, e)
			}
		}
		y, e := Sync(d)
		wantRefused(t, what+", Sync", y, e, api.ErrForm)
		for _, keep := range [][]int{nil, {1}, {2, 2, 2, 2, 2}, {-1}} {
			y, e := Crash(d, keep...)
			wantRefused(t, what+", Crash", y, e, api.ErrForm)
		}
	}
}

// P14.1: Put

func TestPut(t *testing.T) {
	d := api.Disk{Safe: []string{sec("x"), sec("y"), sec("z")}}
	var want []api.Sector
	for k, at := range []int{1, 0, 1, 2, 2, 1} {
		s := sec(string(rune('a' + k)))
		want = append(want, api.Sector{At: at, Text: s})
		y, e := Put(d, at, s)
		wantDisk(t, fmt.Sprint("put ", k), y, e, api.Disk{Safe: d.Safe, Wait: want})
		d = y
	}
}

func TestPutTakesAnyBytes(t *testing.T) {
	d, _ := New(1)
	for _, s := range []string{sec("\xff"), sec(zero), strings.Repeat("é", 16), sec("\x80")} {
		y, e := Put(d, 0, s)
		wantDisk(t, fmt.Sprintf("%q", s), y, e, api.Disk{Safe: d.Safe, Wait: []api.Sector{{At: 0, Text: s}}})
	}
}

func TestPutRefuses(t *testing.T) {
	full := api.Disk{Safe: safes(3), Wait: many(400, 3)}
	for _, d := range []api.Disk{small(), full} {
		for _, at := range []int{0, 2, 3, -1, math.MaxInt} {
			for _, s := range []string{"", "a", sec("a")[1:], sec("a") + "a", sec("é"), strings.Repeat("a", 1<<16)} {
				y, e := Put(d, at, s)
				wantRefused(t, fmt.Sprintf("%d bytes at %d", len(s), at), y, e, api.ErrForm)
			}
		}
		for _, at := range []int{-1, 3, 4, 400, math.MaxInt, math.MinInt} {
			y, e := Put(d, at, sec("a"))
			wantRefused(t, fmt.Sprint("at ", at), y, e, api.ErrNone)
		}
	}
	for _, at := range []int{0, 1, 2} {
		y, e := Put(full, at, sec("a"))
		wantRefused(t, fmt.Sprint("full, at ", at), y, e, api.ErrFull)
	}
}

func TestPutTillItIsFull(t *testing.T) {
	d := api.Disk{Safe: safes(5)}
	for k := range 400 {
		y, e := Put(d, k%5, sec("a"))
		if e != api.OK || len(y.Wait) != k+1 {
			t.Fatalf("put %d: %d wait, %v", k, len(y.Wait), e)
		}
		d = y
	}
	y, e := Put(d, 0, sec("a"))
	wantRefused(t, "one more", y, e, api.ErrFull)
	d, _ = Sync(d)
	if y, e = Put(d, 0, sec("b")); e != api.OK || len(y.Wait) != 1 {
		t.Errorf("after Sync: %d wait, %v", len(y.Wait), e)
	}
}

// P14.1: Sync

func TestSync(t *testing.T) {
	d, e := Sync(small())
	wantDisk(t, "small", d, e, api.Disk{Safe: []string{sec("b"), sec("c"), sec("d")}})
	d, e = Sync(d)
	wantDisk(t, "once more", d, e, api.Disk{Safe: []string{sec("b"), sec("c"), sec("d")}})
	d, e = Sync(api.Disk{Safe: safes(400), Wait: many(400, 3)})
	want := safes(400)
	for k := range 400 {
		want[k%3] = fmt.Sprintf("%-32d", k)
	}
	wantDisk(t, "full", d, e, api.Disk{Safe: want})
}

// P14.1: Crash

func TestCrash(t *testing.T) {
	x, y, z := sec("x"), sec("y"), sec("z")
	for _, c := range []struct {
		keep []int
		want []string
	}{
		{nil, []string{x, y, z}},
		{[]int{0, 0, 0, 0}, []string{x, y, z}},
		{[]int{1}, []string{x, sec("a"), z}},
		{[]int{0, 1}, []string{sec("b"), y, z}},
		{[]int{1, 1, 1, 1}, []string{sec("b"), sec("c"), sec("d")}},
		{[]int{1, 0, 1}, []string{x, sec("c"), z}},
		{[]int{2, 2, 0, 2}, []string{halves("b", "x"), halves("a", "y"), halves("d", "z")}},
		{[]int{1, 0, 2}, []string{x, halves("c", "a"), z}},
		{[]int{2, 0, 2}, []string{x, halves("c", "y"), z}},
		{[]int{2, 0, 1}, []string{x, sec("c"), z}},
		{[]int{0, 0, 0, 1}, []string{x, y, sec("d")}},
		{[]int{0, 0, 0, 0, 1, 1, 1}, []string{x, y, z}},
		{[]int{3, 4, 5, 6}, []string{sec("b"), halves("c", "y"), z}},
		{[]int{300, 301, 302, -301}, []string{sec("b"), halves("c", "y"), z}},
		{[]int{-1, -2, -3, -4}, []string{x, y, z}},
		{[]int{math.MinInt, math.MinInt + 1, math.MinInt + 2, 0}, []string{x, y, z}},
		{[]int{math.MaxInt, math.MaxInt - 1, math.MaxInt - 2, math.MaxInt}, []string{x, halves("c", "a"), sec("d")}}, // 1, 0, 2, 1
	} {
		d, e := Crash(small(), c.keep...)
		wantDisk(t, fmt.Sprint("keep ", c.keep), d, e, api.Disk{Safe: c.want})
	}
}

func TestCrashWhereNothingWaits(t *testing.T) {
	d := api.Disk{Safe: safes(3)}
	for _, keep := range [][]int{nil, {}, {1, 2, 0}, {-1}} {
		y, e := Crash(d, keep...)
		wantDisk(t, fmt.Sprint(keep), y, e, d)
	}
}

// byBytes is what a crash leaves, worked out byte by byte: of each one, the last that came there.
func byBytes(d api.Disk, keep []int) []string {
	var safe []string
	for at, s := range d.Safe {
		b := []byte(s)
		for i := range b {
			for k := len(d.Wait) - 1; k >= 0; k-- {
				n := 0
				if k < len(keep) && keep[k] > 0 {
					n = keep[k] % 3
				}
				if d.Wait[k].At == at && (n == 1 || n == 2 && i < 16) {
					b[i] = d.Wait[k].Text[i]
					break
				}
			}
		}
		safe = append(safe, string(b))
	}
	return safe
}

func TestCrashOfAllThatMayStay(t *testing.T) {
	d := small()
	d.Wait = append(d.Wait, api.Sector{At: 1, Text: sec("e")})
	for n := range 4 * 4 * 4 * 4 * 4 {
		var keep []int
		for k := n; k > 0; k /= 4 {
			keep = append(keep, k%4)
		}
		y, e := Crash(d, keep...)
		wantDisk(t, fmt.Sprint(keep), y, e, api.Disk{Safe: byBytes(d, keep)})
	}
}

// P14.1: Read

func TestRead(t *testing.T) {
	for k, d := range goodDisks() {
		done, _ := Sync(d)
		for at := range d.Safe {
			if s, e := Read(d, at); s != done.Safe[at] || e != api.OK {
				t.Errorf("disk %d, sector %d: %q, %v; want %q", k, at, s, e, done.Safe[at])
			}
		}
		for _, at := range []int{-1, len(d.Safe), len(d.Safe) + 1, 401, math.MaxInt, math.MinInt} {
			if s, e := Read(d, at); s != "" || e != api.ErrNone {
				t.Errorf("disk %d, sector %d: %q, %v; want %v", k, at, s, e, api.ErrNone)
			}
		}
	}
}

func TestReadByHand(t *testing.T) {
	d := small()
	d.Wait = d.Wait[:3]
	for at, want := range []string{sec("b"), sec("c"), sec("z")} {
		if s, e := Read(d, at); s != want || e != api.OK {
			t.Errorf("sector %d: %q, %v; want %q", at, s, e, want)
		}
	}
}

// P14.1, P14.2: many acts, held against lists of bytes.

// numbers are made up, the same ones in each run.
type numbers uint64

func (r *numbers) next(n int) int {
	*r = *r*6364136223846793005 + 1442695040888963407
	return int(uint64(*r)>>33) % n
}

// plain is a disk as bytes that last, and what was put since.
type plain struct {
	safe [][]byte
	wait []api.Sector
}

func (p *plain) settle(keep []int) {
	for k, w := range p.wait {
		switch {
		case k >= len(keep) || keep[k]%3 == 0:
		case keep[k]%3 == 1:
			copy(p.safe[w.At], w.Text)
		default:
			copy(p.safe[w.At][:16], w.Text)
		}
	}
	p.wait = nil
}

func (p *plain) disk() api.Disk {
	d := api.Disk{Wait: p.wait}
	for _, b := range p.safe {
		d.Safe = append(d.Safe, string(b))
	}
	return d
}

func TestManyActs(t *testing.T) {
	for seed := range 60 {
		r := numbers(seed)
		room := 1 + r.next(6)
		d, _ := New(room)
		var p plain
		for range room {
			p.safe = append(p.safe, make([]byte, 32))
		}
		for step := range 60 {
			var e api.Errno
			switch r.next(8) {
			case 0:
				keep := make([]int, r.next(8))
				for k := range keep {
					keep[k] = r.next(9)
				}
				d, e = Crash(d, keep...)
				p.settle(keep)
			case 1:
				d, e = Sync(d)
				p.settle(slices.Repeat([]int{1}, len(p.wait)))
			default:
				w := api.Sector{At: r.next(room), Text: fmt.Sprintf("%16d%16d", step, seed)}
				d, e = Put(d, w.At, w.Text)
				p.wait = append(p.wait, w)
			}
			wantDisk(t, fmt.Sprintf("seed %d, step %d", seed, step), d, e, p.disk())
		}
	}
}

// P14.2: what was synced, and not put again, stays.

func TestWhatWasSyncedStays(t *testing.T) {
	for seed := range 200 {
		r := numbers(seed)
		d, _ := New(8)
		for at := range 8 {
			d, _ = Put(d, at, fmt.Sprintf("%32d", seed+at))
		}
		d, _ = Sync(d)
		was := deep(d)
		var again [8]bool
		for range 1 + r.next(12) {
			at := r.next(8)
			again[at] = true
			d, _ = Put(d, at, sec("n"))
			if r.next(4) == 0 {
				d, _ = Crash(d, r.next(3), r.next(3), r.next(3))
			}
		}
		var keep []int
		for range d.Wait {
			keep = append(keep, r.next(3))
		}
		d, e := Crash(d, keep...)
		for at := range 8 {
			if e != api.OK || !again[at] && d.Safe[at] != was.Safe[at] {
				t.Fatalf("seed %d: sector %d is %q, %v; was %q", seed, at, d.Safe[at], e, was.Safe[at])
			}
		}
	}
}

// R2

// roomy is a copy of d with spare room behind its lists, where marks stand.
func roomy(d api.Disk) api.Disk {
	safe := append(append([]string(nil), d.Safe...), "mark", "mark")
	wait := append(append([]api.Sector(nil), d.Wait...), api.Sector{At: -7}, api.Sector{At: -7})
	return api.Disk{Safe: safe[:len(d.Safe)], Wait: wait[:len(d.Wait)]}
}

// scribble writes into all that d has, spare room too.
func scribble(d api.Disk) {
	for k := range d.Safe[:cap(d.Safe)] {
		d.Safe[:cap(d.Safe)][k] = "scribble"
	}
	for k := range d.Wait[:cap(d.Wait)] {
		d.Wait[:cap(d.Wait)][k] = api.Sector{At: 99, Text: "scribble"}
	}
}

// calls are all that tell a disk of a disk.
func calls(keep []int) []func(d api.Disk) (api.Disk, api.Errno) {
	return []func(d api.Disk) (api.Disk, api.Errno){
		Sync,
		func(d api.Disk) (api.Disk, api.Errno) { return Put(d, 0, sec("n")) },
		func(d api.Disk) (api.Disk, api.Errno) { return Crash(d, keep...) },
		func(d api.Disk) (api.Disk, api.Errno) { return Crash(d) },
	}
}

func TestWhatIsHandedInStays(t *testing.T) {
	keep := []int{1, 2, -5, 7, 1, 1, 2}
	kept := slices.Clone(keep)
	for k, good := range append(goodDisks(), badDisks()...) {
		for c, call := range calls(keep) {
			d := roomy(good)
			spare := deep(api.Disk{Safe: d.Safe[:cap(d.Safe)], Wait: d.Wait[:cap(d.Wait)]})
			call(d)
			Check(d)
			Read(d, 0)
			if !isSame(d, good) || !isSame(api.Disk{Safe: d.Safe[:cap(d.Safe)], Wait: d.Wait[:cap(d.Wait)]}, spare) || !slices.Equal(keep, kept) {
				t.Errorf("disk %d, call %d: changed", k, c)
			}
		}
	}
}

func TestAnswersAreNew(t *testing.T) {
	keep := []int{1, 2, 0, 1}
	for k, good := range goodDisks() {
		for c, call := range calls(keep) {
			d := roomy(good)
			first, e := call(d)
			if e != api.OK {
				continue
			}
			was := deep(first)
			second, _ := call(d)
			scribble(second)
			if !isSame(d, good) || !isSame(first, was) {
				t.Errorf("disk %d, call %d: an answer is shared", k, c)
			}
			scribble(d)
			if !isSame(first, was) {
				t.Errorf("disk %d, call %d: what was handed in is kept", k, c)
			}
		}
	}
	one, _ := New(4)
	two, _ := New(4)
	scribble(one)
	if three, _ := New(4); !isSame(two, three) {
		t.Errorf("New tells what it told")
	}
}

func TestTheSameCallTellsTheSame(t *testing.T) {
	for k, d := range goodDisks() {
		for c, call := range calls([]int{2, 1, 0, 2}) {
			one, e := call(d)
			two, f := call(d)
			if e != f || !isSame(one, two) {
				t.Errorf("disk %d, call %d: %v, %v", k, c, e, f)
			}
		}
	}
}
