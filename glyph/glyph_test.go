package glyph_test

import (
	"math"
	"math/rand/v2"
	"slices"
	"strings"
	"testing"
	"unicode/utf8"

	"tutor/api"
	"tutor/glyph"
)

const usual = "abcdefghijklmnopqrstuvwxyzABCDEFGHIJKLMNOPQRSTUVWXYZ0123456789-_"

// broken has bytes that are no rune in UTF-8, each text at its first byte.
func broken() []string {
	return []string{
		"\x80", "\xbf", // a byte that only goes on
		"\xc3", "\xe2\x82", "\xf0\x9f\x98", // too few bytes
		"\xc3a", "\xe2\x82a", "\xf0\x9f\x98a", "\xe2a", // the same, and more behind
		"\xc0\x80", "\xc1\xa1", "\xe0\x81\xa1", "\xf0\x80\x81\xa1", // longer than need be
		"\xed\xa0\x80", "\xed\xbf\xbf", // d800, dfff
		"\xf4\x90\x80\x80", "\xf5\x80\x80\x80", // above 10ffff
		"\xfe", "\xff",
		"\xef", "\xef\xbf", "\xbf\xbd", "\xef\xbfa", // parts of fffd
	}
}

// seen has runes that may be names, as many as are asked for, with two and
// more bytes each.
func seen(n int) []rune {
	var l []rune
	for i := range n {
		l = append(l, 0x400+rune(i)*0x101)
	}
	return l
}

// many has n names, far more than an alphabet may have.
func many(n int) []rune {
	l := make([]rune, n)
	for i := range l {
		l[i] = 0x10000 + rune(i)
	}
	return l
}

// The promises name these numbers.
func TestLimits(t *testing.T) {
	if api.MaxAlphabet != 64 || api.MaxWord != 4096 {
		t.Errorf("limits are %d, %d", api.MaxAlphabet, api.MaxWord)
	}
	got := []api.Errno{api.OK, api.ErrArg, api.ErrLong, api.ErrMany, api.ErrNone, api.ErrSymbol, api.ErrRune, api.ErrTwice}
	if want := []api.Errno{0, 1, 2, 3, 4, 10, 20, 21}; !slices.Equal(got, want) {
		t.Errorf("errors are %v, not %v", got, want)
	}
}

// P2.1: texts that are taken.
func TestParse(t *testing.T) {
	for _, c := range []struct {
		s    string
		want []rune
	}{
		{"a", []rune{'a'}},
		{"ab", []rune{'a', 'b'}},
		{"ba", []rune{'b', 'a'}},
		{"aA", []rune{'a', 'A'}},
		{"!~", []rune{0x21, 0x7e}},
		{"\u0080", []rune{0x80}},
		{"a\u00e9\u20ac\U0001f600b", []rune{'a', 0xe9, 0x20ac, 0x1f600, 'b'}},
		{"e\u0301\u00e9", []rune{'e', 0x301, 0xe9}},
		{"\ufffd", []rune{0xfffd}},
		{"a\ufffdb", []rune{'a', 0xfffd, 'b'}},
		{"\u00a0\u2028\ufeff", []rune{0xa0, 0x2028, 0xfeff}},
		{"\ud7ff\ue000\uffff\U00010000\U0010ffff", []rune{0xd7ff, 0xe000, 0xffff, 0x10000, 0x10ffff}},
		{`"\|()`, []rune{'"', '\\', '|', '(', ')'}},
		{usual, []rune(usual)},
		{string(seen(api.MaxAlphabet)), seen(api.MaxAlphabet)},
	} {
		names, e, at := glyph.Parse(c.s)
		if !slices.Equal(names, c.want) || e != api.OK || at != len(c.s) {
			t.Errorf("%q: %q, %d, %d", c.s, names, e, at)
		}
	}
}

// P2.1: the faults, and of several the first one from the left.
func TestParseFaults(t *testing.T) {
	full := string(seen(api.MaxAlphabet))
	for _, c := range []struct {
		s  string
		e  api.Errno
		at int
	}{
		{"", api.ErrNone, 0},

		{" ", api.ErrRune, 0},
		{"a b", api.ErrRune, 1},
		{"\u20ac ", api.ErrRune, 3},
		{"\x00", api.ErrRune, 0},
		{"ab\n", api.ErrRune, 2},
		{"a\x1f", api.ErrRune, 1},
		{"a\x7f", api.ErrRune, 1},
		{"\u00e9\x7fa", api.ErrRune, 2},

		{"aa", api.ErrTwice, 1},
		{"aba", api.ErrTwice, 2},
		{"abb", api.ErrTwice, 2},
		{"\u00e9a\u00e9", api.ErrTwice, 3},
		{"\ufffda\ufffd", api.ErrTwice, 4},
		{usual[:63] + "a", api.ErrTwice, 63},

		{usual + "!", api.ErrMany, 64},
		{usual + "!?", api.ErrMany, 64},
		{full + "a", api.ErrMany, len(full)},
		{full + "\ufffd", api.ErrMany, len(full)},

		// The first from the left, whatever comes behind it.
		{"a a\xff", api.ErrRune, 1},
		{"aa ", api.ErrTwice, 1},
		{"aa\xff", api.ErrTwice, 1},
		{"\xffaa", api.ErrRune, 0},
		{usual + "! ", api.ErrMany, 64},
		{usual + "!!", api.ErrMany, 64},
		{usual + "!\xff", api.ErrMany, 64},
		{usual + strings.Repeat("\u20ac", 1000), api.ErrMany, 64},

		// Of one rune ErrRune is asked first, then ErrTwice.
		{"  ", api.ErrRune, 0},
		{"\xff\xff", api.ErrRune, 0},
		{"\ufffd\xff", api.ErrRune, 3},
		{"\ufffd\xef\xbf", api.ErrRune, 3},
		{usual + " ", api.ErrRune, 64},
		{usual + "\x7f", api.ErrRune, 64},
		{usual + "\xff", api.ErrRune, 64},
		{usual + "a", api.ErrTwice, 64},
		{usual + "_", api.ErrTwice, 64},
		{full + string(seen(1)), api.ErrTwice, len(full)},
	} {
		names, e, at := glyph.Parse(c.s)
		if len(names) != 0 || e != c.e || at != c.at {
			t.Errorf("%q: %q, %d, %d, not %d, %d", c.s, names, e, at, c.e, c.at)
		}
	}
}

// P2.1: each rune by itself.
func TestParseEachRune(t *testing.T) {
	for r := range rune(utf8.MaxRune + 1) {
		if !utf8.ValidRune(r) {
			continue
		}
		s := string(r)
		names, e, at := glyph.Parse(s)
		if r < 0x21 || r == 0x7f {
			if len(names) != 0 || e != api.ErrRune || at != 0 {
				t.Fatalf("%x: %x, %d, %d", r, names, e, at)
			}
		} else if !slices.Equal(names, []rune{r}) || e != api.OK || at != len(s) {
			t.Fatalf("%x: %x, %d, %d", r, names, e, at)
		}
	}
}

// P2.1 and P2.3: bytes that are no rune, at the first one of them.
func TestBroken(t *testing.T) {
	names := []rune{'b', 'a', utf8.RuneError, 0xe9, -1, 0xd800, 0xdfff, 0x110000}
	for _, b := range broken() {
		for _, ahead := range []string{"", "b", "\u00e9", "\ufffd", "b\ufffd"} {
			s := ahead + b
			if n, e, at := glyph.Parse(s); len(n) != 0 || e != api.ErrRune || at != len(ahead) {
				t.Errorf("Parse(%q): %q, %d, %d", s, n, e, at)
			}
			if w, e, at := glyph.Read(names, s); len(w) != 0 || e != api.ErrRune || at != len(ahead) {
				t.Errorf("Read(%q): %d, %d, %d", s, w, e, at)
			}
		}
	}
}

// P2.2.
func TestDefault(t *testing.T) {
	for _, k := range []int{0, -1, -64, 65, 66, 128, 1 << 32, 1<<32 + 1, math.MinInt, math.MaxInt} {
		if names := glyph.Default(k); len(names) != 0 {
			t.Errorf("%d: %q", k, names)
		}
	}
	for k := 1; k <= 64; k++ {
		names := glyph.Default(k)
		if string(names) != usual[:k] {
			t.Errorf("%d: %q", k, names)
		}
		if parsed, e, at := glyph.Parse(string(names)); !slices.Equal(parsed, names) || e != api.OK || at != k {
			t.Errorf("%d: Parse tells %q, %d, %d", k, parsed, e, at)
		}
	}
}

// P2.3: texts that are taken.
func TestRead(t *testing.T) {
	for _, c := range []struct {
		names []rune
		s     string
		want  []int
	}{
		{nil, "", nil},
		{[]rune{'a'}, "", nil},
		{[]rune{'a', 'b'}, "ba", []int{1, 0}},
		{[]rune{'a', 'b'}, "bbab", []int{1, 1, 0, 1}},
		{[]rune{'a', 0xe9}, "\u00e9a\u00e9", []int{1, 0, 1}},
		{[]rune{0x1f600, 'a', 0x20ac}, "a\u20ac\U0001f600", []int{1, 2, 0}},
		// Names may be any list, and the first that it is counts.
		{[]rune{'a', 'b', 'a', 'b', 'c'}, "cba", []int{4, 1, 0}},
		{[]rune{'b', 'b', 'a', 'a'}, "abab", []int{2, 0, 2, 0}},
		{[]rune{' ', 0, '\n', 0x7f}, "\x7f \x00\n", []int{3, 0, 1, 2}},
		{[]rune{-1, 'a', 0xd800, 0x110000, 'b'}, "ab", []int{1, 4}},
		{[]rune{'a', utf8.RuneError}, "\ufffda\ufffd", []int{1, 0, 1}},
		{many(100000), "\U00010000\U0002869f\U00010000", []int{0, 99999, 0}},
		{slices.Repeat([]rune{'a'}, 70), "aa", []int{0, 0}},
	} {
		w, e, at := glyph.Read(c.names, c.s)
		if !slices.Equal(w, c.want) || e != api.OK || at != len(c.s) {
			t.Errorf("%q: %d, %d, %d", c.s, w, e, at)
		}
	}
	for _, a := range []string{"a", "\u00e9"} {
		s := strings.Repeat(a, api.MaxWord)
		w, e, at := glyph.Read([]rune{'b', 'a', 0xe9}, s)
		if len(w) != api.MaxWord || slices.Max(w) != slices.Min(w) || w[0] == 0 || e != api.OK || at != len(s) {
			t.Errorf("MaxWord times %s: %d symbols, %d, %d", a, len(w), e, at)
		}
	}
}

// P2.3: the faults, and of several the first one.
func TestReadFaults(t *testing.T) {
	ab := []rune{'a', 'b', 0xe9}
	long, longer := strings.Repeat("a", api.MaxWord), strings.Repeat("\u00e9", api.MaxWord)
	for _, c := range []struct {
		name  string
		names []rune
		s     string
		e     api.Errno
		at    int
	}{
		{"none of names", ab, "c", api.ErrRune, 0},
		{"none of names, later", ab, "bc", api.ErrRune, 1},
		{"behind one of two bytes", ab, "\u00e9c", api.ErrRune, 2},
		{"of three bytes", ab, "a\u20aca", api.ErrRune, 1},
		{"another letter", ab, "aA", api.ErrRune, 1},
		{"a blank", ab, "a b", api.ErrRune, 1},
		{"no names", nil, "a", api.ErrRune, 0},
		{"fffd, not a name", ab, "a\ufffd", api.ErrRune, 1},
		{"a byte that is no rune", ab, "ab\xe9", api.ErrRune, 2},
		{"the byte, not the rune", []rune{0xff, utf8.RuneError}, "\xff", api.ErrRune, 0},
		{"right behind many names", many(100000), "\U0002869f\U000286a0", api.ErrRune, 4},
		{"names that no text has", []rune{-1, 0xd800, 0x110000}, "a", api.ErrRune, 0},
		{"the first of several", ab, "aXY\xff", api.ErrRune, 1},
		{"bytes ahead of a rune", ab, "a\xffX", api.ErrRune, 1},

		{"one too long", ab, long + "a", api.ErrLong, api.MaxWord},
		{"longer still", ab, long + long, api.ErrLong, api.MaxWord},
		{"runes, not bytes", ab, longer + "a", api.ErrLong, 2 * api.MaxWord},
		{"the last one may be wrong", ab, long[1:] + "c", api.ErrRune, api.MaxWord - 1},
		{"ErrLong ahead of ErrRune, of one rune", ab, long + "c", api.ErrLong, api.MaxWord},
		{"ErrLong ahead of ErrRune, of one rune, fffd", ab, long + "\ufffd", api.ErrLong, api.MaxWord},
		{"ErrLong asked first of bytes, too", ab, long + "\xff", api.ErrLong, api.MaxWord},
		{"ErrRune further left", ab, "c" + long + "a", api.ErrRune, 0},
		{"ErrRune further left, bytes", ab, long[1:] + "\xff" + long, api.ErrRune, api.MaxWord - 1},
		{"ErrLong further left", ab, long + "ac", api.ErrLong, api.MaxWord},
	} {
		w, e, at := glyph.Read(c.names, c.s)
		if len(w) != 0 || e != c.e || at != c.at {
			t.Errorf("%s: %d symbols, %d, %d, not %d, %d", c.name, len(w), e, at, c.e, c.at)
		}
	}
}

// P2.4.
func TestShow(t *testing.T) {
	odd := []rune{'a', -1, 0xd7ff, 0xd800, 0xdfff, 0xe000, 0x10ffff, 0x110000, math.MinInt32, math.MaxInt32, 0, utf8.RuneError, ' '}
	for _, c := range []struct {
		name  string
		names []rune
		w     []int
		want  string
		e     api.Errno
	}{
		{"nothing", nil, nil, "", api.OK},
		{"nothing, with names", []rune{'a'}, []int{}, "", api.OK},
		{"ordinary", []rune{'a', 'b'}, []int{1, 0}, "ba", api.OK},
		{"of several bytes", []rune{'a', 0xe9, 0x20ac, 0x1f600}, []int{3, 1, 2, 0, 1}, "\U0001f600\u00e9\u20aca\u00e9", api.OK},
		{"names that Parse does not take", odd, []int{12, 10, 0, 11}, " \x00a\ufffd", api.OK},
		{"the edges of what UTF-8 has", odd, []int{2, 5, 6}, "\ud7ff\ue000\U0010ffff", api.OK},
		{"names twice there", []rune{'a', 'a'}, []int{1, 0}, "aa", api.OK},
		{"names that are not asked for", []rune{-1, 'a'}, []int{1, 1}, "aa", api.OK},

		{"no names", nil, []int{0}, "", api.ErrSymbol},
		{"as many as names", []rune{'a', 'b'}, []int{0, 2}, "", api.ErrSymbol},
		{"below 0", []rune{'a', 'b'}, []int{0, -1}, "", api.ErrSymbol},
		{"the greatest", []rune{'a', 'b'}, []int{math.MaxInt}, "", api.ErrSymbol},
		{"the least", []rune{'a', 'b'}, []int{math.MinInt}, "", api.ErrSymbol},
		{"2 to the 32nd", []rune{'a', 'b'}, []int{1 << 32}, "", api.ErrSymbol},
		{"only the spare room has it", []rune{'a', 'b', 'c'}[:2], []int{2}, "", api.ErrSymbol},

		{"a name below 0", odd, []int{1}, "", api.ErrArg},
		{"d800", odd, []int{0, 3}, "", api.ErrArg},
		{"dfff", odd, []int{0, 4}, "", api.ErrArg},
		{"110000", odd, []int{7, 0}, "", api.ErrArg},
		{"the least rune", odd, []int{8}, "", api.ErrArg},
		{"the greatest rune", odd, []int{9}, "", api.ErrArg},

		{"ErrSymbol further left", odd, []int{0, 13, 1}, "", api.ErrSymbol},
		{"ErrArg further left", odd, []int{0, 1, 13}, "", api.ErrArg},
	} {
		if s, e := glyph.Show(c.names, c.w); s != c.want || e != c.e {
			t.Errorf("%s: %q, %d, not %q, %d", c.name, s, e, c.want, c.e)
		}
	}
	// No word is too long to be shown.
	long := make([]int, 3*api.MaxWord)
	if s, e := glyph.Show([]rune{0xe9}, long); s != strings.Repeat("\u00e9", len(long)) || e != api.OK {
		t.Errorf("a long word: %d bytes, %d", len(s), e)
	}
}

// P2.4: each number that a name may be.
func TestShowEachRune(t *testing.T) {
	for r := rune(-300); r < 0x110000+300; r++ {
		s, e := glyph.Show([]rune{r}, []int{0})
		if r < 0 || r > 0x10ffff || r >= 0xd800 && r <= 0xdfff {
			if s != "" || e != api.ErrArg {
				t.Fatalf("%x: %q, %d", r, s, e)
			}
		} else if s != string(r) || e != api.OK {
			t.Fatalf("%x: %q, %d", r, s, e)
		}
	}
}

// P2.5: what is shown by names that Parse tells is read as it was, and what is
// read is shown again.
func TestThereAndBack(t *testing.T) {
	draw := rand.New(rand.NewPCG(1, 2))
	lists := []string{"a", "\ufffd", "ba", "a\u00e9\u20ac\U0001f600", usual, string(seen(api.MaxAlphabet)), `"\|()[]{}*+?.^`}
	for _, list := range lists {
		names, e, _ := glyph.Parse(list)
		if e != api.OK {
			t.Fatalf("%q: %d", list, e)
		}
		for _, n := range []int{0, 1, 2, 3, 10, 100, api.MaxWord} {
			w := make([]int, n)
			for i := range w {
				w[i] = draw.IntN(len(names))
			}
			s, e := glyph.Show(names, w)
			if e != api.OK {
				t.Fatalf("%q: Show tells %d", list, e)
			}
			read, e, at := glyph.Read(names, s)
			if !slices.Equal(read, w) || e != api.OK || at != len(s) {
				t.Errorf("%q: %d was read as %d, %d, %d", list, w, read, e, at)
			}
			if again, e := glyph.Show(names, read); again != s || e != api.OK {
				t.Errorf("%q: %q was shown as %q, %d", list, s, again, e)
			}
		}
	}
	// What is read is shown again by any names, those that are twice there too.
	for _, names := range [][]rune{{'a', 'a', 'b'}, {-1, 'b', ' ', 'a'}, {'b', 'a', 'b', 0}} {
		s := "abbaab"
		w, e, _ := glyph.Read(names, s)
		if e != api.OK {
			t.Fatalf("%q: %d", names, e)
		}
		if again, e := glyph.Show(names, w); again != s || e != api.OK {
			t.Errorf("%q was shown as %q, %d", s, again, e)
		}
	}
}
