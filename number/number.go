// Package number: numbers as bytes: see ../../shared/doc/01-number.md.
package number

import "lectionary/api"

// A byte carries so many bits of a number, those of low; more marks each byte but the last.
const (
	bits = 7
	more = 1 << bits
	low  = more - 1
)

// most is how many bytes MaxNum has: no number that may be has more.
const most = 5

// Put tells the bytes of n.
func Put(n int) (string, api.Errno) {
	if !mayBe(n) {
		return "", api.ErrForm
	}
	b := make([]byte, 0, most)
	for n > low {
		b = append(b, byte(n&low|more))
		n >>= bits
	}
	return string(append(b, byte(n))), api.OK
}

// Take tells the number whose bytes s begins with, and what is behind them.
func Take(s string) (n int, rest string, e api.Errno) {
	// Five bytes carry 35 bits: more than an int has on a small machine.
	var sum uint64
	for i := range min(len(s), most) {
		c := s[i]
		sum |= uint64(c&low) << (bits * i)
		if c >= more {
			continue
		}
		// A last byte 0 behind others means that fewer would have done.
		if sum > api.MaxNum || (c == 0 && i > 0) {
			break
		}
		return int(sum), s[i+1:], api.OK
	}
	return 0, "", api.ErrBad
}

// Size tells how many bytes n has.
func Size(n int) (int, api.Errno) {
	if !mayBe(n) {
		return 0, api.ErrForm
	}
	size := 1
	for n > low {
		n >>= bits
		size++
	}
	return size, api.OK
}

// Text tells the bytes of the length of s, and s. Of an s that is longer than a number can tell there are none: "".
func Text(s string) string {
	head, e := Put(len(s))
	if e != api.OK {
		return ""
	}
	return head + s
}

// TakeText tells the text that s begins with, and what is behind it.
func TakeText(s string) (t string, rest string, e api.Errno) {
	n, rest, e := Take(s)
	if e != api.OK || n > len(rest) {
		return "", "", api.ErrBad
	}
	return rest[:n], rest[n:], api.OK
}

func mayBe(n int) bool { return n >= 0 && n <= api.MaxNum }
