package glyph_test

import (
	"math/rand/v2"
	"slices"
	"testing"
	"unicode/utf8"

	"tutor/api"
	"tutor/glyph"
)

// plainParse goes through s as the document says it, rune by rune, without a
// range.
func plainParse(s string) ([]rune, api.Errno, int) {
	if len(s) == 0 {
		return nil, api.ErrNone, 0
	}
	var names []rune
	for at := 0; at < len(s); {
		r, size := utf8.DecodeRuneInString(s[at:])
		if r == utf8.RuneError && size == 1 || r < 0x21 || r == 0x7f {
			return nil, api.ErrRune, at
		}
		for _, n := range names {
			if n == r {
				return nil, api.ErrTwice, at
			}
		}
		if len(names) >= 64 {
			return nil, api.ErrMany, at
		}
		names = append(names, r)
		at += size
	}
	return names, api.OK, len(s)
}

func plainRead(names []rune, s string) ([]int, api.Errno, int) {
	var w []int
	for at := 0; at < len(s); {
		r, size := utf8.DecodeRuneInString(s[at:])
		if len(w) >= 4096 {
			return nil, api.ErrLong, at
		}
		if r == utf8.RuneError && size == 1 {
			return nil, api.ErrRune, at
		}
		x := 0
		for x < len(names) && names[x] != r {
			x++
		}
		if x == len(names) {
			return nil, api.ErrRune, at
		}
		w = append(w, x)
		at += size
	}
	return w, api.OK, len(s)
}

// drawn puts together n pieces, a fault now and then, as a text.
func drawn(draw *rand.Rand, n, seldom int) string {
	good := []rune("abcdefghijklmnopqrstuvwxyz0123456789\u00e9\u00df\u20ac\u4e2d\ufffd\U0001f600\U0010ffff")
	bad := append(broken(), " ", "\x00", "\x1f", "\x7f", "aa", "\xef\xbf\xbd")
	s := ""
	for range n {
		if draw.IntN(seldom) == 0 {
			s += bad[draw.IntN(len(bad))]
		} else {
			s += string(good[draw.IntN(len(good))])
		}
	}
	return s
}

// P2.1, P2.3.
func TestAgainstPlain(t *testing.T) {
	draw := rand.New(rand.NewPCG(3, 4))
	for range 20000 {
		s := drawn(draw, draw.IntN(9), 2+draw.IntN(30))
		names, e, at := glyph.Parse(s)
		if want, we, wat := plainParse(s); !slices.Equal(names, want) || e != we || at != wat {
			t.Fatalf("Parse(%q): %q, %d, %d, not %q, %d, %d", s, names, e, at, want, we, wat)
		}
		list := []rune(drawn(draw, draw.IntN(60), 10))
		w, e, at := glyph.Read(list, s)
		if want, we, wat := plainRead(list, s); !slices.Equal(w, want) || e != we || at != wat {
			t.Fatalf("Read(%q, %q): %d, %d, %d, not %d, %d, %d", list, s, w, e, at, want, we, wat)
		}
	}
}
