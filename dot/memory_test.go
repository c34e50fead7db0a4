package dot_test

import (
	"slices"
	"testing"

	"tutor/api"
	"tutor/dot"
)

// roomy lays a list out anew, with spare room that is marked: both the whole
// room and the list that is handed in are answered.
func roomy[T int | rune](l []T) (room, list []T) {
	room = append(slices.Clone(l), 77, 78, 79)
	return room, room[:len(l)]
}

// scribble writes all over a list, its spare room too.
func scribble[T int | rune | byte](l []T, by T) {
	l = l[:cap(l)]
	for at := range l {
		l[at] = by
	}
}

// wholly tells whether a list is written over still, its spare room too.
func wholly[T int | rune | byte](l []T, by T) bool {
	return !slices.ContainsFunc(l[:cap(l)], func(x T) bool { return x != by })
}

// Dot neither changes nor keeps what is handed in, its spare room included,
// and no answer shares anything with another one.
func TestDotMemory(t *testing.T) {
	for _, start := range []func() api.Machine{acceptor, transducer} {
		for _, names := range [][]rune{{'a', 'b'}, {'"', '\\'}, {'a'}, {'a', ' '}, {'a', 'b', 'c'}, nil} {
			dotMemory(t, start(), names)
			for _, f := range faults() {
				m := start()
				f.turn(&m)
				dotMemory(t, m, names)
			}
		}
	}
	for _, m := range drawn() {
		for _, names := range namings(m.K) {
			dotMemory(t, m, names)
		}
	}
}

func dotMemory(t *testing.T, m api.Machine, names []rune) {
	t.Helper()
	b, wantE := dot.Dot(m, names)
	want := string(b)
	given := m
	nextRoom, next := roomy(m.Next)
	outRoom, out := roomy(m.Out)
	namesRoom, givenNames := roomy(names)
	given.Next, given.Out = next, out
	nextBefore, outBefore, namesBefore := slices.Clone(nextRoom), slices.Clone(outRoom), slices.Clone(namesRoom)
	var answers [][]byte
	for range 3 {
		got, e := dot.Dot(given, givenNames)
		if string(got) != want || e != wantE {
			t.Fatalf("%v: %q, %d, not %q, %d", m, got, e, want, wantE)
		}
		answers = append(answers, got)
	}
	scribble(answers[0], 1)
	scribble(answers[1], 2)
	if !wholly(answers[0], 1) || !wholly(answers[1], 2) || string(answers[2]) != want {
		t.Fatalf("%v: two answers share memory", m)
	}
	if !slices.Equal(nextRoom, nextBefore) || !slices.Equal(outRoom, outBefore) || !slices.Equal(namesRoom, namesBefore) {
		t.Fatalf("%v: what was handed in is now %v, %v, %q", m, nextRoom, outRoom, namesRoom)
	}
	if again, e := dot.Dot(given, givenNames); string(again) != want || e != wantE {
		t.Fatalf("%v: later %q, %d", m, again, e)
	}
	scribble(nextRoom, -99)
	scribble(outRoom, -99)
	scribble(namesRoom, -99)
	if string(answers[2]) != want {
		t.Fatalf("%v: what was handed in is part of %q", m, answers[2])
	}
}

// Label likewise.
func TestLabelMemory(t *testing.T) {
	for _, names := range [][]rune{nil, {'a'}, {'"', '\\', 'é'}, {' ', -1, 'b'}} {
		room, given := roomy(names)
		before := slices.Clone(room)
		for x := -1; x <= len(names); x++ {
			want, wantE := "", api.ErrSymbol
			if x >= 0 && x < len(names) {
				want, wantE = plainLabel(names[x])
			}
			got, e := dot.Label(given, x)
			if got != want || e != wantE {
				t.Errorf("%q, %d: %q, %d, not %q, %d", names, x, got, e, want, wantE)
			}
			if !slices.Equal(room, before) {
				t.Fatalf("%q, %d: what was handed in is now %q", names, x, room)
			}
			scribble(room, 'X')
			if got != want {
				t.Errorf("%q, %d: what was handed in is part of %q", names, x, got)
			}
			copy(room, before)
		}
	}
}

// Next and Out may be one list.
func TestOneListTwice(t *testing.T) {
	l := []int{1, 0}
	m := dfa(1, l, l)
	names := []rune{'a'}
	if got, e := dot.Dot(m, names); string(got) != plainDot(m, names) || e != api.OK || !slices.Equal(l, []int{1, 0}) {
		t.Errorf("%q, %d, %v", got, e, l)
	}
}
