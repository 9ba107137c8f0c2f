package seal

import (
	"math/big"
	"strings"
	"testing"

	"lectionary/api"
	"lectionary/number"
)

// texts are some that have a frame: none, short ones, and both sides of each place where the length takes a byte more or the limit is.
var texts = []string{
	"",
	"\x00",
	"a",
	"\xff",
	"a\x00\xff",
	"é, and more",
	strings.Repeat("\x00", 40),
	strings.Repeat("\xff", 41),
	strings.Repeat("x", 127),
	strings.Repeat("y", 128),
	mixed(api.MaxFrame - 1),
	mixed(api.MaxFrame),
}

// mixed is n bytes of many kinds.
func mixed(n int) string {
	b := make([]byte, n)
	for i := range b {
		b[i] = byte(i*i*31 + i>>3)
	}
	return string(b)
}

// slowCheck works the check out as the document says it, without a word size.
func slowCheck(s string) uint32 {
	h, modulus := big.NewInt(1), big.NewInt(4294967291)
	for i := range len(s) {
		h.Mul(h, big.NewInt(263))
		h.Add(h, big.NewInt(int64(s[i])+7))
		h.Mod(h, modulus)
	}
	return uint32(h.Uint64())
}

// frame lays a frame out by hand, whatever size says.
func frame(size, s string) string {
	h := slowCheck(size + s)
	return size + string([]byte{byte(h >> 24), byte(h >> 16), byte(h >> 8), byte(h)}) + s
}

func sizeOf(t *testing.T, s string) string {
	t.Helper()
	size, e := number.Put(len(s))
	if e != api.OK {
		t.Fatalf("a length of %d: %v", len(s), e)
	}
	return size
}

func wantTaken(t *testing.T, s, text, rest string) {
	t.Helper()
	gotText, gotRest, ok := Take(s)
	if gotText != text || gotRest != rest || !ok {
		t.Errorf("Take(%.20q) = %.20q, %.20q, %v; want %.20q, %.20q, true", s, gotText, gotRest, ok, text, rest)
	}
}

func wantRefused(t *testing.T, s string) {
	t.Helper()
	if text, rest, ok := Take(s); text != "" || rest != "" || ok {
		t.Errorf("Take(%.20q) = %.20q, %.20q, %v; want false alone", s, text, rest, ok)
	}
}

// P2.1

func TestOfKnownTexts(t *testing.T) {
	for _, c := range []struct {
		s string
		h uint32
	}{
		{"", 1},
		{"\x00", 270},
		{"a", 367},
		{"ab", 96626},
		{"ba", 96888},
		{"\xff", 525},
	} {
		if h := Of(c.s); h != c.h {
			t.Errorf("Of(%q) = %d; want %d", c.s, h, c.h)
		}
	}
}

func TestOfIsTheCheck(t *testing.T) {
	all := append([]string{strings.Repeat("\xff", 5000), mixed(5000)}, texts...)
	for n := range 300 {
		all = append(all, mixed(n))
	}
	for _, s := range all {
		if h, want := Of(s), slowCheck(s); h != want {
			t.Errorf("Of(%.20q), %d bytes: %d; want %d", s, len(s), h, want)
		}
	}
}

func TestAddOfNothing(t *testing.T) {
	// The check of one byte 0 is 270.
	if f := Add(""); f != "\x00\x00\x00\x01\x0e" {
		t.Errorf("Add(\"\") = %q", f)
	}
}

func TestAddIsSizeCheckText(t *testing.T) {
	for _, s := range texts {
		if f, want := Add(s), frame(sizeOf(t, s), s); f != want {
			t.Errorf("Add(%.20q), %d bytes: %.20q; want %.20q", s, len(s), f, want)
		}
	}
}

func TestAddOfTooLong(t *testing.T) {
	for _, n := range []int{api.MaxFrame + 1, api.MaxFrame + 2, 1 << 14, 1 << 20} {
		if f := Add(strings.Repeat("x", n)); f != "" {
			t.Errorf("a frame of %d bytes: %d bytes, %.20q", n, len(f), f)
		}
	}
}

func TestTakeTellsTextAndRest(t *testing.T) {
	for _, s := range texts {
		f := frame(sizeOf(t, s), s)
		for _, rest := range []string{"", "\x00", "\x80", "more", f, mixed(1000)} {
			wantTaken(t, f+rest, s, rest)
		}
	}
}

func TestTakeOfCutFrame(t *testing.T) {
	for _, s := range texts {
		f := frame(sizeOf(t, s), s)
		for k := range len(f) {
			wantRefused(t, f[:k])
		}
	}
}

func TestTakeOfNoFrame(t *testing.T) {
	long := strings.Repeat("x", api.MaxFrame+1)
	for _, s := range []string{
		"",
		"\x00",
		"\x80",
		"\x00\x00\x00\x00\x00",
		strings.Repeat("\x00", api.Block),
		strings.Repeat("\xff", 1000),
		"\x00\x0e\x01\x00\x00", // the lowest byte of the check first
		"\x00\x00\x00\x00\x01", // the check of the text alone
		"\x01" + "a" + "\x00\x01\x7a\x6f",
		frame(sizeOf(t, long), long),
		frame("\x80\x00", ""),               // a length of too many bytes
		frame("\x81\x00", "a"),              // likewise
		frame("\x80\x80\x80\x80\x01", long), // a length of MaxNum
		frame("\x81\x80\x80\x80\x01", long), // a length beyond it
		frame("\x02", "a"),                  // more than there is
		frame("\x01", "ab"),                 // less than was checked
		"x" + frame("\x01", "a"),
	} {
		wantRefused(t, s)
	}
}

// The checks of these frames are 0 to 4: the only ones that four bytes hold a second time, beyond the modulus. Such bytes are not the check's.
func TestTakeOfCheckBeyondModulus(t *testing.T) {
	for h := range byte(5) {
		s := "\xb1\x03\x42" + string([]byte{0xbc + h})
		wantTaken(t, "\x04\x00\x00\x00"+string([]byte{h})+s, s, "")
		wantRefused(t, "\x04\xff\xff\xff"+string([]byte{0xfb + h})+s)
	}
}

// P2.2

func TestTakeOfAddIsIt(t *testing.T) {
	for n := range api.MaxFrame + 1 {
		s := mixed(n)
		wantTaken(t, Add(s), s, "")
		wantTaken(t, Add(s)+"more", s, "more")
	}
}

func TestFramesInARow(t *testing.T) {
	all := ""
	for _, s := range texts {
		all += Add(s)
	}
	for i, s := range texts {
		got, rest, ok := Take(all)
		if got != s || !ok {
			t.Fatalf("text %d: %.20q, %v", i, got, ok)
		}
		all = rest
	}
	if all != "" {
		t.Errorf("left: %.20q", all)
	}
}

func TestHurtFrameIsNotTaken(t *testing.T) {
	for _, s := range texts {
		f := Add(s)
		for k := len(sizeOf(t, s)); k < len(f); k++ {
			b := []byte(f)
			for c := 1; c < 256; c += 1 + len(f)/50 {
				b[k] = f[k] ^ byte(c)
				wantRefused(t, string(b))
				wantRefused(t, string(b)+"more")
			}
		}
	}
}
