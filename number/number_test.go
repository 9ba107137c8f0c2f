package number

import (
	"math"
	"strings"
	"testing"

	"lectionary/api"
)

// known are numbers with their bytes, written out by hand: an ordinary one, and both sides of each place where a byte more is needed.
var known = []struct {
	n     int
	bytes string
}{
	{0, "\x00"},
	{1, "\x01"},
	{100, "\x64"},
	{127, "\x7f"},
	{128, "\x80\x01"},
	{300, "\xac\x02"},
	{16383, "\xff\x7f"},
	{16384, "\x80\x80\x01"},
	{2097151, "\xff\xff\x7f"},
	{2097152, "\x80\x80\x80\x01"},
	{api.MaxNum - 1, "\xff\xff\xff\x7f"},
	{api.MaxNum, "\x80\x80\x80\x80\x01"},
}

// outside are numbers that may not be.
var outside = []int{-1, -128, math.MinInt, math.MinInt32, api.MaxNum + 1, 1 << 29, math.MaxInt32, math.MaxInt}

// noNumber are texts that begin with no number's bytes.
var noNumber = []string{
	"",
	"\x80",
	"\xff\xff",
	"\x80\x00",                         // 0 in too many bytes
	"\x80\x00\x01",                     // likewise, with something behind
	"\xff\x00",                         // 127 in too many bytes
	"\xac\x82\x00",                     // 300 in too many bytes
	"\x80\x80\x80\x80\x00",             // 0 in five
	"\x81\x80\x80\x80\x01",             // MaxNum + 1
	"\xff\xff\xff\xff\x01",             // beyond it
	"\x80\x80\x80\x80\x02",             // twice MaxNum
	"\x80\x80\x80\x80\x10",             // 2^32: 0, where an int has 32 bits
	"\x81\x80\x80\x80\x7f",             // the most that five bytes carry, nearly
	"\x80\x80\x80\x80\x80\x01",         // six bytes
	"\x80\x80\x80\x80\x81\x00",         // MaxNum in too many bytes
	strings.Repeat("\x80", 9) + "\x02", // 2^64: 0, where it wraps round
	strings.Repeat("\x80", 1000),
	strings.Repeat("\xff", 1000) + "\x01",
}

func wantTake(t *testing.T, s string, n int, rest string, e api.Errno) {
	t.Helper()
	gotN, gotRest, gotE := Take(s)
	if gotN != n || gotRest != rest || gotE != e {
		t.Errorf("Take(%.20q) = %d, %.20q, %v; want %d, %.20q, %v", s, gotN, gotRest, gotE, n, rest, e)
	}
}

func wantTakeText(t *testing.T, s, text, rest string, e api.Errno) {
	t.Helper()
	gotText, gotRest, gotE := TakeText(s)
	if gotText != text || gotRest != rest || gotE != e {
		t.Errorf("TakeText(%.20q) = %.20q, %.20q, %v; want %.20q, %.20q, %v", s, gotText, gotRest, gotE, text, rest, e)
	}
}

// P1.1

func TestPutTellsTheBytes(t *testing.T) {
	for _, c := range known {
		if s, e := Put(c.n); s != c.bytes || e != api.OK {
			t.Errorf("Put(%d) = %q, %v; want %q", c.n, s, e, c.bytes)
		}
	}
}

func TestSizeTellsHowManyBytes(t *testing.T) {
	for _, c := range known {
		if n, e := Size(c.n); n != len(c.bytes) || e != api.OK {
			t.Errorf("Size(%d) = %d, %v; want %d", c.n, n, e, len(c.bytes))
		}
	}
}

func TestNumbersThatMayNotBe(t *testing.T) {
	for _, n := range outside {
		if s, e := Put(n); s != "" || e != api.ErrForm {
			t.Errorf("Put(%d) = %q, %v; want ErrForm alone", n, s, e)
		}
		if k, e := Size(n); k != 0 || e != api.ErrForm {
			t.Errorf("Size(%d) = %d, %v; want ErrForm alone", n, k, e)
		}
	}
}

func TestTakeTellsNumberAndRest(t *testing.T) {
	for _, c := range known {
		for _, rest := range []string{"", "\x00", "\x01", "\x80", "\xff\xff", "more"} {
			wantTake(t, c.bytes+rest, c.n, rest, api.OK)
		}
	}
}

func TestTakeOfNoNumber(t *testing.T) {
	for _, s := range noNumber {
		wantTake(t, s, 0, "", api.ErrBad)
	}
	for _, c := range known {
		for k := range len(c.bytes) {
			wantTake(t, c.bytes[:k], 0, "", api.ErrBad)
		}
	}
}

// TestTakeOfShortTexts holds Take against Put: of all texts of up to two bytes, and those of three with an edge as the last, just those begin with a number of which some beginning is what Put tells.
func TestTakeOfShortTexts(t *testing.T) {
	told := make(map[string]int)
	for n := range 1 << 21 {
		s, _ := Put(n)
		told[s] = n
	}
	try := func(s string) {
		for k := 1; k <= len(s); k++ {
			if n, ok := told[s[:k]]; ok {
				wantTake(t, s, n, s[k:], api.OK)
				return
			}
		}
		wantTake(t, s, 0, "", api.ErrBad)
	}
	try("")
	for a := range 256 {
		try(string([]byte{byte(a)}))
		for b := range 256 {
			try(string([]byte{byte(a), byte(b)}))
			for _, c := range []byte{0, 1, 2, 63, 127, 128, 129, 200, 255} {
				try(string([]byte{byte(a), byte(b), c}))
			}
		}
	}
}

// P1.2

func TestTextIsLengthThenText(t *testing.T) {
	for _, c := range []struct{ head, s string }{
		{"\x00", ""},
		{"\x01", "a"},
		{"\x03", "a\x00\xff"},
		{"\x02", "é"},
		{"\x7f", strings.Repeat("x", 127)},
		{"\x80\x01", strings.Repeat("x", 128)},
		{"\xac\x02", strings.Repeat("x", 300)},
		{"\x80\x80\x01", strings.Repeat("x", 16384)},
	} {
		b := Text(c.s)
		if b != c.head+c.s {
			t.Errorf("Text(%.20q) = %.20q", c.s, b)
		}
		for _, rest := range []string{"", "\x00", "\x80", "more", c.s} {
			wantTakeText(t, b+rest, c.s, rest, api.OK)
		}
		for k := range min(len(b), 400) {
			wantTakeText(t, b[:k], "", "", api.ErrBad)
		}
		wantTakeText(t, b[:len(b)-1], "", "", api.ErrBad)
	}
}

func TestTakeTextOfNoText(t *testing.T) {
	for _, s := range noNumber {
		wantTakeText(t, s, "", "", api.ErrBad)
		// What is behind does not make bytes that are no number's a length.
		if len(s) > 0 && s[len(s)-1] < 0x80 {
			wantTakeText(t, s+strings.Repeat("x", 1000), "", "", api.ErrBad)
		}
	}
	for _, s := range []string{"\x01", "\x03ab", "\x7f", "\x80\x01" + strings.Repeat("x", 127), "\x80\x80\x80\x80\x01abc"} {
		wantTakeText(t, s, "", "", api.ErrBad)
	}
}

// TestLongestText takes texts on both sides of MaxNum bytes. What Text tells of one that is longer the document leaves open; it must be no text's bytes.
func TestLongestText(t *testing.T) {
	long := strings.Repeat("x", api.MaxNum+1)
	longest := long[:api.MaxNum]
	b := Text(longest)
	if !strings.HasPrefix(b, "\x80\x80\x80\x80\x01") || b[5:] != longest {
		t.Errorf("the longest text: %d bytes, %.10q", len(b), b)
	}
	wantTakeText(t, b, longest, "", api.OK)
	wantTakeText(t, b[:len(b)-1], "", "", api.ErrBad)
	if s := Text(long); s != "" {
		t.Errorf("a text that is too long: %d bytes, %.10q", len(s), s)
	}
}

// P1.3

func wantBack(t *testing.T, n int) {
	t.Helper()
	s, e := Put(n)
	if k, f := Size(n); e != api.OK || f != api.OK || k != len(s) {
		t.Fatalf("%d: Put %q, %v; Size %d, %v", n, s, e, k, f)
	}
	wantTake(t, s, n, "", api.OK)
	wantTake(t, s+s, n, s, api.OK)
}

func TestTakeOfPutIsIt(t *testing.T) {
	for n := range 1 << 17 {
		wantBack(t, n)
	}
	for n := 0; n <= api.MaxNum; n += 1009 {
		wantBack(t, n)
	}
	for shift := range 29 {
		for by := -2; by <= 2; by++ {
			if n := 1<<shift + by; n >= 0 && n <= api.MaxNum {
				wantBack(t, n)
			}
		}
	}
}

func TestTakeTextOfTextIsIt(t *testing.T) {
	all := ""
	var texts []string
	for n := range 300 {
		s := strings.Repeat(string([]byte{byte(n)}), n)
		texts = append(texts, s)
		all += Text(s)
	}
	for i, s := range texts {
		got, rest, e := TakeText(all)
		if got != s || e != api.OK {
			t.Fatalf("text %d: %.20q, %v", i, got, e)
		}
		all = rest
	}
	if all != "" {
		t.Errorf("left: %.20q", all)
	}
}
