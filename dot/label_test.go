package dot_test

import (
	"math"
	"testing"

	"tutor/api"
	"tutor/dot"
	"tutor/glyph"
)

// P9.1.
func TestLabel(t *testing.T) {
	names := []rune{'a', '"', 'é', '\\', '/', '世', 0x1f600, '\'', 'a'}
	for x, want := range []string{"a", `\"`, "é", `\\`, "/", "世", "\U0001f600", "'", "a"} {
		if got, e := dot.Label(names, x); got != want || e != api.OK {
			t.Errorf("%d: %q, %d, not %q", x, got, e, want)
		}
	}
}

// P9.1: which symbols there are.
func TestLabelSymbols(t *testing.T) {
	long := make([]rune, 1000)
	for i := range long {
		long[i] = rune(0x1000 + i)
	}
	for _, names := range [][]rune{nil, {}, {'a'}, {'a', 'b'}, {' '}, {-1, 0x110000}, glyph.Default(api.MaxAlphabet), long} {
		n := len(names)
		for _, x := range []int{-1, -2, n, n + 1, n + 64, math.MinInt, math.MaxInt} {
			if got, e := dot.Label(names, x); got != "" || e != api.ErrSymbol {
				t.Errorf("%d of %d names: %q, %d", x, n, got, e)
			}
		}
	}
	for _, x := range []int{0, 63, 64, 65, 999} {
		if got, e := dot.Label(long, x); got != string(long[x]) || e != api.OK {
			t.Errorf("%d of 1000 names: %q, %d", x, got, e)
		}
	}
}

// P9.1: a spare room's runes are no names.
func TestLabelSpareRoom(t *testing.T) {
	room := []rune{'a', 'b', 'c'}
	if got, e := dot.Label(room[:1], 1); got != "" || e != api.ErrSymbol {
		t.Errorf("%q, %d", got, e)
	}
	if got, e := dot.Label(room[1:2], 0); got != "b" || e != api.OK {
		t.Errorf("%q, %d", got, e)
	}
}

// wrongNames has of each kind of rune that is no name the ones at its edges.
func wrongNames() []rune {
	return []rune{0, 1, '\t', '\n', '\r', 0x1f, ' ', 0x7f, -1, -2, math.MinInt32, 0xd800, 0xdbff, 0xdc00, 0xdfff, 0x110000, 0x110001, math.MaxInt32}
}

// P9.1: what is no name, whatever stands beside it.
func TestLabelWrongNames(t *testing.T) {
	for _, r := range wrongNames() {
		for x, names := range [][]rune{{r}, {'a', r}, {' ', 'b', r, 'c'}} {
			if got, e := dot.Label(names, x); got != "" || e != api.ErrRune {
				t.Errorf("%x: %q, %d", r, got, e)
			}
		}
		// Only the name that is asked for matters.
		if got, e := dot.Label([]rune{r, 'b', r}, 1); got != "b" || e != api.OK {
			t.Errorf("between %x: %q, %d", r, got, e)
		}
	}
}

// P9.1: names at the edges, among them fffd, which is what a rune that there
// is not would become.
func TestLabelRightNames(t *testing.T) {
	for _, r := range []rune{0x21, 0x23, 0x5b, 0x5d, 0x7e, 0x80, 0x9f, 0xa0, 0x7ff, 0x800, 0x2028, 0xd7ff, 0xe000, 0xfeff, 0xfffd, 0xfffe, 0xffff, 0x10000, 0x10ffff} {
		if got, e := dot.Label([]rune{r}, 0); got != string(r) || e != api.OK {
			t.Errorf("%x: %q, %d", r, got, e)
		}
	}
}

// plainLabel is P9.1's second half, sentence by sentence, of a name alone.
func plainLabel(r rune) (string, api.Errno) {
	switch {
	case r < 0, r > 0x10ffff, 0xd800 <= r && r <= 0xdfff:
		return "", api.ErrRune
	case r < 0x21, r == 0x7f:
		return "", api.ErrRune
	case r == 0x22:
		return "\\\"", api.OK
	case r == 0x5c:
		return "\\\\", api.OK
	}
	return string(r), api.OK
}

// P9.1, of all runes and of some numbers on both sides of them; of those that
// UTF-8 has, what glyph.Parse takes.
func TestLabelOfAllRunes(t *testing.T) {
	for r := rune(-300); r <= 0x110000+300; r++ {
		want, wantE := plainLabel(r)
		got, e := dot.Label([]rune{r}, 0)
		if got != want || e != wantE {
			t.Fatalf("%x: %q, %d, not %q, %d", r, got, e, want, wantE)
		}
		if valid := r >= 0 && r <= 0x10ffff && (r < 0xd800 || r > 0xdfff); valid {
			if _, parsed, _ := glyph.Parse(string(r)); (parsed == api.OK) != (e == api.OK) {
				t.Fatalf("%x: %d, but Parse tells %d", r, e, parsed)
			}
		}
	}
}
