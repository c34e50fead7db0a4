package moore_test

import (
	"slices"
	"testing"

	"tutor/api"
	"tutor/moore"
)

// roomy lays a list out anew, with spare room that is marked: both the whole
// room and the list that is handed in are answered.
func roomy(l []int) (room, list []int) {
	room = append(slices.Clone(l), 77, 78, 79)
	return room, room[:len(l)]
}

// answers is what all three calls tell, each twice.
type answers struct {
	after [][]int
	whole []wholly
	least []api.Machine
	e     []api.Errno
}

func askAll(m api.Machine, n int) (a answers) {
	for range 2 {
		c, afterE := moore.After(m, n)
		least, leastE := moore.Minimise(m)
		a.after, a.whole, a.least = append(a.after, c), append(a.whole, classesOf(m)), append(a.least, least)
		a.e = append(a.e, afterE, leastE)
	}
	return a
}

// lists tells all lists of the answers, by their whole room.
func (a answers) lists() [][]int {
	l := slices.Clone(a.after)
	for _, c := range a.whole {
		l = append(l, c.classes)
	}
	for _, m := range a.least {
		l = append(l, m.Next, m.Out)
	}
	for i := range l {
		l[i] = l[i][:cap(l[i])]
	}
	return l
}

func equalAnswers(a, b answers) bool {
	return slices.EqualFunc(a.after, b.after, slices.Equal[[]int]) && slices.EqualFunc(a.whole, b.whole, equalWholly) &&
		slices.EqualFunc(a.least, b.least, equalMachine) && slices.Equal(a.e, b.e)
}

// What is handed in is neither changed nor kept, its spare room included, and
// no list of an answer shares anything with it, with another list of it, or
// with another answer.
func TestMemory(t *testing.T) {
	for _, start := range []func() api.Machine{acceptor, transducer} {
		for n := -1; n <= 3; n++ {
			memory(t, start(), n)
		}
		for _, f := range faults() {
			m := start()
			f.turn(&m)
			memory(t, m, 1)
		}
	}
	memory(t, chain(api.Dfa, 9, 1), 4)
	memory(t, chain(api.Mealy, 9, 2), 20)
	memory(t, dfa(1, []int{0}, []int{1}), 0)
	for _, m := range drawn() {
		memory(t, m, 1)
	}
}

func memory(t *testing.T, m api.Machine, n int) {
	t.Helper()
	nextRoom, next := roomy(m.Next)
	outRoom, out := roomy(m.Out)
	rooms := [][]int{nextRoom, outRoom}
	before := [][]int{slices.Clone(nextRoom), slices.Clone(outRoom)}
	given := m
	given.Next, given.Out = next, out
	want := askAll(m, n)
	got := askAll(given, n)
	if !equalAnswers(got, want) {
		t.Fatalf("%v, %d: %v, not %v", m, n, got, want)
	}
	all := got.lists()
	for i, l := range all {
		for at := range l {
			l[at] = 1000 + i
		}
	}
	for i, l := range all {
		if slices.ContainsFunc(l, func(x int) bool { return x != 1000+i }) {
			t.Fatalf("%v, %d: two lists of the answers share memory", m, n)
		}
	}
	if !slices.EqualFunc(rooms, before, slices.Equal[[]int]) {
		t.Fatalf("%v, %d: what was handed in is now %v", m, n, rooms)
	}
	last := askAll(given, n)
	for _, r := range rooms {
		for at := range r {
			r[at] = -99
		}
	}
	if !equalAnswers(last, want) {
		t.Fatalf("%v, %d: later %v, not %v", m, n, last, want)
	}
}
