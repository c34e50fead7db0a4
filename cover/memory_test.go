package cover_test

import (
	"slices"
	"testing"

	"tutor/api"
)

// roomy lays a list out anew, with spare room that is marked: both the whole
// room and the list that is handed in are answered.
func roomy(l []int) (room, list []int) {
	room = append(slices.Clone(l), 77, 78, 79)
	return room, room[:len(l)]
}

// roomyMachine lays a machine's lists out so.
func roomyMachine(m api.Machine) (given api.Machine, rooms [][]int) {
	nextRoom, next := roomy(m.Next)
	outRoom, out := roomy(m.Out)
	m.Next, m.Out = next, out
	return m, [][]int{nextRoom, outRoom}
}

func deep(l [][]int) [][]int {
	var c [][]int
	for _, w := range l {
		c = append(c, slices.Clone(w))
	}
	return c
}

// scribble writes all over a list, its spare room too.
func scribble[T any](l []T, by T) {
	l = l[:cap(l)]
	for at := range l {
		l[at] = by
	}
}

// lists tells the lists of words that were answered, and the words.
func (a answers) lists() (lists [][][]int, words [][]int) {
	lists = append([][][]int{a.states, a.ways, a.set}, a.marks...)
	return lists, slices.Concat(lists...)
}

// What is handed in is neither changed nor kept, its spare room included, and
// no list of an answer shares anything with it, with another list of it, or
// with another answer.
func TestMemory(t *testing.T) {
	for _, start := range []func() api.Machine{acceptor, transducer} {
		memory(t, start())
		for _, f := range faults() {
			m := start()
			f.turn(&m)
			memory(t, m)
		}
	}
	for _, c := range cases() {
		memory(t, c.m)
	}
	for _, kind := range []int{api.Dfa, api.Mealy} {
		memory(t, chain(kind, 9, 1))
		memory(t, chain(kind, 17, 2))
		memory(t, ring(kind, 2, make([]int, 9)))
	}
	for _, m := range drawn() {
		memory(t, m)
	}
}

func memory(t *testing.T, m api.Machine) {
	t.Helper()
	want := ask(m)
	given, rooms := roomyMachine(m)
	before := deep(rooms)
	first, second, last := ask(given), ask(given), ask(given)
	for _, got := range []answers{first, second, last} {
		if !got.equal(want) {
			t.Fatalf("%v: %v, not %v", m, got, want)
		}
	}
	wordsApart(t, m, first, second)
	listsApart(t, m, first, second)
	if !equalWords(rooms, before) {
		t.Fatalf("%v: what was handed in is now %v", m, rooms)
	}
	if again := ask(given); !again.equal(want) {
		t.Fatalf("%v: later %v, not %v", m, again, want)
	}
	for _, r := range rooms {
		scribble(r, -99)
	}
	if !last.equal(want) {
		t.Fatalf("%v, written over: %v, not %v", m, last, want)
	}
}

// wordsApart writes all over the words of two answers, each by a number of its
// own, and holds that none wrote over another.
func wordsApart(t *testing.T, m api.Machine, first, second answers) {
	t.Helper()
	_, words := first.lists()
	_, more := second.lists()
	words = append(words, more...)
	for i, w := range words {
		scribble(w, 1000+i)
	}
	for i, w := range words {
		if slices.ContainsFunc(w[:cap(w)], func(x int) bool { return x != 1000+i }) {
			t.Fatalf("%v: two words of the answers share memory", m)
		}
	}
}

// listsApart does so with the lists of words.
func listsApart(t *testing.T, m api.Machine, first, second answers) {
	t.Helper()
	lists, _ := first.lists()
	more, _ := second.lists()
	lists = append(lists, more...)
	for i, l := range lists {
		scribble(l, []int{i})
	}
	for i, l := range lists {
		if slices.ContainsFunc(l[:cap(l)], func(w []int) bool { return w[0] != i }) {
			t.Fatalf("%v: two lists of words share memory", m)
		}
	}
	scribble(first.marks, nil)
	if slices.ContainsFunc(second.marks, func(l [][]int) bool { return l == nil }) {
		t.Fatalf("%v: what Marks tells shares memory", m)
	}
}

// Next and Out may be one list.
func TestOneListTwice(t *testing.T) {
	l := []int{1, 0}
	want := ask(dfa(1, []int{1, 0}, []int{1, 0}))
	if got := ask(dfa(1, l, l)); !got.equal(want) || got.e[0] != api.OK || !slices.Equal(l, []int{1, 0}) {
		t.Errorf("one list twice: %v, not %v; %v", got, want, l)
	}
}
