package text_test

import (
	"fmt"
	"math"
	"strings"
	"testing"

	"tutor/api"
	"tutor/text"
)

// read is what Number tells.
type read struct {
	n, next int
	e       api.Errno
}

func number(b []byte, at int) (r read) {
	r.n, r.next, r.e = text.Number(b, at)
	return r
}

// P8.1.
func TestNumber(t *testing.T) {
	for _, c := range []struct {
		s    string
		at   int
		want read
	}{
		{"0", 0, read{0, 1, api.OK}},
		{"7", 0, read{7, 1, api.OK}},
		{"9", 0, read{9, 1, api.OK}},
		{"10", 0, read{10, 2, api.OK}},
		{"42", 0, read{42, 2, api.OK}},
		{"305", 0, read{305, 3, api.OK}},
		{"1000", 0, read{1000, 4, api.OK}},
		{"9999", 0, read{9999, 4, api.OK}},
		{"a120b", 1, read{120, 4, api.OK}},
		{"0 1", 0, read{0, 1, api.OK}},
		{"0/1", 2, read{1, 3, api.OK}},
		{"1234 5", 0, read{1234, 4, api.OK}},
		{"12.5", 0, read{12, 2, api.OK}},
		{"0x1", 0, read{0, 1, api.OK}},
		{"1e3", 0, read{1, 1, api.OK}},
		{"1_0", 0, read{1, 1, api.OK}},

		// The digits ahead of the place play no part.
		{"120", 1, read{20, 3, api.OK}},
		{"120", 2, read{0, 3, api.OK}},
		{"0042", 2, read{42, 4, api.OK}},
		{"12345", 1, read{2345, 5, api.OK}},

		{"00", 0, read{0, 1, api.ErrForm}},
		{"042", 0, read{0, 1, api.ErrForm}},
		{"09", 0, read{0, 1, api.ErrForm}},
		{"0000000", 0, read{0, 1, api.ErrForm}},
		{"x042", 1, read{0, 2, api.ErrForm}},
		{"10000", 0, read{0, 4, api.ErrForm}},
		{"12340", 0, read{0, 4, api.ErrForm}},
		{"1234567890", 0, read{0, 4, api.ErrForm}},
		{"1234567890", 3, read{0, 7, api.ErrForm}},
		{"01234", 0, read{0, 1, api.ErrForm}},
		{strings.Repeat("9", 100), 0, read{0, 4, api.ErrForm}},

		{"a", 0, read{0, 0, api.ErrForm}},
		{" 1", 0, read{0, 0, api.ErrForm}},
		{"1 ", 1, read{0, 1, api.ErrForm}},
		{"-1", 0, read{0, 0, api.ErrForm}},
		{"+1", 0, read{0, 0, api.ErrForm}},
		{"\n", 0, read{0, 0, api.ErrForm}},
		{"\u0661", 0, read{0, 0, api.ErrForm}},
		{"", 0, read{0, 0, api.ErrForm}},
		{"12", 2, read{0, 2, api.ErrForm}},

		{"", 1, read{0, 0, api.ErrArg}},
		{"", -1, read{0, 0, api.ErrArg}},
		{"12", 3, read{0, 0, api.ErrArg}},
		{"12", -1, read{0, 0, api.ErrArg}},
		{"12", math.MaxInt, read{0, 0, api.ErrArg}},
		{"12", math.MinInt, read{0, 0, api.ErrArg}},
	} {
		if got := number([]byte(c.s), c.at); got != c.want {
			t.Errorf("%q at %d: %v, not %v", c.s, c.at, got, c.want)
		}
	}
	if got := number(nil, 0); got != (read{0, 0, api.ErrForm}) {
		t.Errorf("nil: %v", got)
	}
}

// What stands in the spare room is no part of the text.
func TestNumberSpareRoom(t *testing.T) {
	b := []byte("1234")
	for at := range 3 {
		if got := number(b[:at], at); got != (read{0, at, api.ErrForm}) {
			t.Errorf("at the end, %d: %v", at, got)
		}
		if got := number(b[:at], at+1); got != (read{0, 0, api.ErrArg}) {
			t.Errorf("behind the end, %d: %v", at+1, got)
		}
	}
	if got := number(b[:2], 0); got != (read{12, 2, api.OK}) {
		t.Errorf("two digits of four: %v", got)
	}
}

// Of all bytes just ten are digits.
func TestNumberBytes(t *testing.T) {
	for c := range 256 {
		digit := strings.IndexByte("0123456789", byte(c))
		want, behind := read{digit, 1, api.OK}, read{10 + digit, 2, api.OK}
		if digit < 0 {
			want, behind = read{0, 0, api.ErrForm}, read{1, 1, api.OK}
		}
		if got := number([]byte{byte(c)}, 0); got != want {
			t.Errorf("byte %d: %v, not %v", c, got, want)
		}
		if got := number([]byte{'1', byte(c)}, 0); got != behind {
			t.Errorf("byte %d behind a 1: %v, not %v", c, got, behind)
		}
	}
}

// P8.1, sentence by sentence, of all texts of few bytes, at all places.
func TestNumberAsPlainlyRead(t *testing.T) {
	for n := range 7 {
		for _, l := range lists(n, 4) {
			var s string
			for _, x := range l {
				s += "019 "[x : x+1]
			}
			for at := -2; at <= n+2; at++ {
				if got, want := number([]byte(s), at), plainNumber(s, at); got != want {
					t.Fatalf("%q at %d: %v, not %v", s, at, got, want)
				}
			}
		}
	}
}

func plainNumber(s string, at int) read {
	if at < 0 || at > len(s) {
		return read{0, 0, api.ErrArg}
	}
	rest := s[at:]
	digits := rest[:len(rest)-len(strings.TrimLeft(rest, "0123456789"))]
	switch {
	case digits == "":
		return read{0, at, api.ErrForm}
	case digits[0] == '0' && len(digits) > 1:
		return read{0, at + 1, api.ErrForm}
	case len(digits) > 4:
		return read{0, at + 4, api.ErrForm}
	}
	n := 0
	fmt.Sscanf(digits, "%d", &n)
	return read{n, at + len(digits), api.OK}
}

// P8.1.
func TestPut(t *testing.T) {
	for _, c := range []struct {
		n    int
		want string
	}{
		{0, "0"}, {1, "1"}, {9, "9"}, {10, "10"}, {64, "64"}, {99, "99"}, {100, "100"}, {120, "120"}, {1024, "1024"}, {9999, "9999"},
		{10000, "10000"}, {12345678, "12345678"}, {1 << 40, "1099511627776"}, {math.MaxInt, "9223372036854775807"},
		{-1, "-1"}, {-9, "-9"}, {-10, "-10"}, {-120, "-120"}, {-10000, "-10000"}, {math.MinInt + 1, "-9223372036854775807"}, {math.MinInt, "-9223372036854775808"},
	} {
		if got := string(text.Put(c.n)); got != c.want {
			t.Errorf("%d: %q, not %q", c.n, got, c.want)
		}
	}
	for n := -20000; n <= 20000; n++ {
		if got, want := string(text.Put(n)), fmt.Sprint(n); got != want {
			t.Fatalf("%d: %q, not %q", n, got, want)
		}
	}
}

// P8.1: what is put is read again, if it has not too many digits.
func TestNumberOfPut(t *testing.T) {
	for n := range 10000 {
		b := text.Put(n)
		if got := number(b, 0); got != (read{n, len(b), api.OK}) {
			t.Fatalf("%q: %v", b, got)
		}
	}
	for _, n := range []int{10000, 10001, 99999, 123456789, math.MaxInt} {
		if got := number(text.Put(n), 0); got != (read{0, 4, api.ErrForm}) {
			t.Errorf("%d: %v", n, got)
		}
		if got := number(text.Put(-n), 0); got != (read{0, 0, api.ErrForm}) {
			t.Errorf("%d: %v", -n, got)
		}
	}
}
