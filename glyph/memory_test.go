package glyph_test

import (
	"slices"
	"testing"

	"tutor/api"
	"tutor/glyph"
)

// roomy lays a list out anew, with spare room that is marked: both the whole
// room and the list that is handed in are answered.
func roomy[T ~int | ~int32](l []T) (room, list []T) {
	room = append(slices.Clone(l), 77, 78, 79)
	return room, room[:len(l)]
}

// scribble writes all over a list, its spare room too.
func scribble[T ~int | ~int32](l []T) {
	for i := range l[:cap(l)] {
		l[:cap(l)][i] = 'X'
	}
}

// apart calls three times; one answer after the other is written all over: by
// that no other answer may change, nor what a later call answers.
func apart[T ~int | ~int32](t *testing.T, name string, want []T, call func() []T) {
	t.Helper()
	first, second, third := call(), call(), call()
	scribble(first)
	if !slices.Equal(second, want) || !slices.Equal(third, want) {
		t.Errorf("%s: after the first answer was written over: %v, %v", name, second, third)
	}
	scribble(second)
	if !slices.Equal(third, want) {
		t.Errorf("%s: after the second answer was written over: %v", name, third)
	}
	if later := call(); !slices.Equal(later, want) {
		t.Errorf("%s: later %v", name, later)
	}
}

func TestAnswersAreNew(t *testing.T) {
	apart(t, "Parse", []rune{'b', 'a', 'c'}, func() []rune { n, _, _ := glyph.Parse("bac"); return n })
	apart(t, "Default", []rune{'a', 'b', 'c'}, func() []rune { return glyph.Default(3) })
	apart(t, "Default of all", []rune(usual), func() []rune { return glyph.Default(api.MaxAlphabet) })
	apart(t, "Read", []int{1, 0, 1}, func() []int { w, _, _ := glyph.Read([]rune{'a', 'b'}, "bab"); return w })
	apart(t, "Parse, a fault", nil, func() []rune { n, _, _ := glyph.Parse("baca"); return n })
	apart(t, "Read, a fault", nil, func() []int { w, _, _ := glyph.Read([]rune{'a', 'b'}, "bac"); return w })
}

// What is handed in is neither changed nor kept, its spare room included.
func TestArgumentsStay(t *testing.T) {
	for _, c := range []struct {
		s string
		w []int
	}{{"bab", []int{1, 0, 1}}, {"", nil}, {"bMO", []int{1, 2}}, {"b\xff", []int{1, -1}}, {"aab", []int{3}}} {
		nameRoom, names := roomy([]rune{'a', 'b', -1})
		wordRoom, w := roomy(c.w)
		namesBefore, wordBefore := slices.Clone(nameRoom), slices.Clone(wordRoom)
		read, re, _ := glyph.Read(names, c.s)
		shown, se := glyph.Show(names, w)
		if !slices.Equal(nameRoom, namesBefore) || !slices.Equal(wordRoom, wordBefore) {
			t.Errorf("%q: what was handed in is now %v, %v", c.s, nameRoom, wordRoom)
		}
		readBefore, shownBefore := slices.Clone(read), string([]byte(shown))
		scribble(nameRoom)
		scribble(wordRoom)
		if !slices.Equal(read, readBefore) || shown != shownBefore {
			t.Errorf("%q: what was handed in is part of %v, %q", c.s, read, shown)
		}
		_, names = roomy([]rune{'a', 'b', -1})
		if again, e, _ := glyph.Read(names, c.s); !slices.Equal(again, readBefore) || e != re {
			t.Errorf("%q: read later as %v, %d", c.s, again, e)
		}
		if again, e := glyph.Show(names, c.w); again != shownBefore || e != se {
			t.Errorf("%q: shown later as %q, %d", c.s, again, e)
		}
	}
	// What stands in the spare room is no name.
	room := []rune{'a', 'b', 'c'}
	if w, e, at := glyph.Read(room[:2], "ac"); len(w) != 0 || e != api.ErrRune || at != 1 {
		t.Errorf("a name of the spare room: %d, %d, %d", w, e, at)
	}
}
