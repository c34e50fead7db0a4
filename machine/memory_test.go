package machine_test

import (
	"slices"
	"testing"

	"tutor/api"
	"tutor/machine"
)

// roomy lays a list out anew, with spare room that is marked: both the whole
// room and the list that is handed in are answered.
func roomy(l []int) (room, list []int) {
	room = append(slices.Clone(l), 77, 78, 79)
	return room, room[:len(l)]
}

// scribble writes all over a list, its spare room too.
func scribble(l []int) {
	for i := range l[:cap(l)] {
		l[:cap(l)][i] = -99
	}
}

// What is handed in is neither changed nor kept, its spare room included, and
// no answer shares anything with it or with another one.
func TestMemory(t *testing.T) {
	for _, start := range []func() api.Machine{acceptor, transducer} {
		for _, w := range [][]int{nil, {0}, {0, 1, 0, 0}, {0, 2}, {1, -1}} {
			for _, s := range []int{-1, 0, 1} {
				memory(t, start(), s, w)
			}
		}
		broken := start()
		broken.Next[3] = 9
		memory(t, broken, 0, []int{0, 1})
		broken = start()
		broken.Out = broken.Out[:1]
		memory(t, broken, 0, []int{0, 1})
	}
}

func memory(t *testing.T, m api.Machine, s int, w []int) {
	t.Helper()
	nextRoom, next := roomy(m.Next)
	outRoom, out := roomy(m.Out)
	wordRoom, by := roomy(w)
	rooms := [][]int{nextRoom, outRoom, wordRoom}
	var before [][]int
	for _, r := range rooms {
		before = append(before, slices.Clone(r))
	}
	given := m
	given.Next, given.Out = next, out
	at, e := machine.Check(given)
	got := runAll(given, s, by)
	again := runAll(given, s, by)
	want := got
	want.out, want.said = slices.Clone(got.out), slices.Clone(got.said)
	argumentsStay := func(what string) {
		t.Helper()
		if !slices.EqualFunc(rooms, before, slices.Equal[[]int]) {
			t.Fatalf("%v from %d by %v, %s: what was handed in is now %v", m, s, w, what, rooms)
		}
	}
	argumentsStay("after the calls")
	scribble(got.out)
	if !slices.Equal(got.said, want.said) || !equalRan(again, want) {
		t.Fatalf("%v from %d by %v: answers share memory", m, s, w)
	}
	scribble(got.said)
	scribble(again.out)
	if !slices.Equal(again.said, want.said) {
		t.Fatalf("%v from %d by %v: answers share memory", m, s, w)
	}
	argumentsStay("after the answers were written over")
	last := runAll(given, s, by)
	if !equalRan(last, want) {
		t.Fatalf("%v from %d by %v: later %v, not %v", m, s, w, last, want)
	}
	for _, r := range rooms {
		scribble(r)
	}
	if !equalRan(last, want) {
		t.Fatalf("%v from %d by %v: what was handed in is part of %v", m, s, w, last)
	}
	if laterAt, later := machine.Check(m); laterAt != at || later != e {
		t.Fatalf("%v: checked later %d, %d, not %d, %d", m, laterAt, later, at, e)
	}
	if later := runAll(m, s, w); !equalRan(later, want) {
		t.Fatalf("%v from %d by %v: later %v, not %v", m, s, w, later, want)
	}
}
