package block_test

import (
	"slices"
	"testing"

	"tutor/api"
	"tutor/block"
)

// roomy lays a list out anew, with spare room that is marked: both the whole
// room and the list that is handed in are answered.
func roomy(l []int) (room, list []int) {
	room = append(slices.Clone(l), 77, 78, 79)
	return room, room[:len(l)]
}

// scribble writes all over a list, its spare room too.
func scribble(l []int, by int) {
	l = l[:cap(l)]
	for at := range l {
		l[at] = by
	}
}

// noneShared writes all over lists, each by a number of its own, and looks
// whether one wrote over another.
func noneShared(t *testing.T, lists [][]int) {
	t.Helper()
	for i, l := range lists {
		scribble(l, 1000+i)
	}
	for i, l := range lists {
		if slices.ContainsFunc(l[:cap(l)], func(x int) bool { return x != 1000+i }) {
			t.Fatalf("two of %d lists share memory: %v", len(lists), l)
		}
	}
}

// told lists all lists that an object tells, each twice.
func told(p *block.Part) [][]int {
	var l [][]int
	for range 2 {
		l = append(l, p.All())
		for c := range p.Count() {
			members, _ := p.Members(c)
			l = append(l, members)
		}
	}
	return l
}

// What is handed in stays, its spare room included, and is not kept; what is
// answered is not the object's, nor another answer's.
func TestMemoryOfParts(t *testing.T) {
	p := newPart(t, 6)
	var lists [][]int
	for _, c := range []struct {
		l, made, all []int
		e            api.Errno
	}{
		{nil, nil, []int{0, 0, 0, 0, 0, 0}, api.OK},
		{[]int{5, 4, 3, 2, 1, 0}, nil, []int{0, 0, 0, 0, 0, 0}, api.OK},
		{[]int{4, 3, 3}, []int{1}, []int{0, 0, 0, 1, 1, 0}, api.OK},
		{[]int{5, 6}, nil, []int{0, 0, 0, 1, 1, 0}, api.ErrArg},
		{[]int{3, 2, 0}, []int{2, 3}, []int{2, 0, 2, 3, 1, 0}, api.OK},
		{[]int{5, 0}, []int{4, 5}, []int{5, 0, 2, 3, 1, 4}, api.OK},
	} {
		lists = append(lists, told(p)...)
		room, l := roomy(c.l)
		before := slices.Clone(room)
		made, e := p.Split(l)
		if !slices.Equal(made, c.made) || e != c.e {
			t.Fatalf("Split(%v): %v, %d, not %v, %d", c.l, made, e, c.made, c.e)
		}
		if !slices.Equal(room, before) {
			t.Fatalf("Split(%v): what was handed in is now %v", c.l, room)
		}
		lists = append(lists, made, room)
		noneShared(t, lists)
		holdAll(t, p, c.all)
	}
}

// What was told is not changed by what is done later.
func TestAnswersStay(t *testing.T) {
	p := newPart(t, 4)
	made, _ := p.Split([]int{1, 2})
	all := p.All()
	members, _ := p.Members(1)
	splitTo(t, p, []int{2, 3}, []int{2, 3}, []int{0, 1, 3, 2})
	splitTo(t, p, nil, nil, []int{0, 1, 3, 2})
	if !slices.Equal(made, []int{1}) || !slices.Equal(all, []int{0, 1, 1, 0}) || !slices.Equal(members, []int{1, 2}) {
		t.Errorf("told before: %v, %v, %v", made, all, members)
	}
}

// What an object tells may be handed in to it.
func TestToldHandedIn(t *testing.T) {
	p := newPart(t, 4)
	splitTo(t, p, []int{1, 2}, []int{1}, []int{0, 1, 1, 0})
	members, _ := p.Members(1)
	splitTo(t, p, members, nil, []int{0, 1, 1, 0})
	splitTo(t, p, p.All(), []int{2, 3}, []int{2, 3, 1, 0})
}

func TestMemoryOfHopcroft(t *testing.T) {
	for _, start := range []func() api.Machine{acceptor, transducer} {
		memory(t, start())
		for _, f := range faults() {
			m := start()
			f.turn(&m)
			memory(t, m)
		}
	}
	memory(t, chain(api.Dfa, 1, 1))
	memory(t, chain(api.Mealy, 9, 2))
	for _, m := range drawn() {
		memory(t, m)
	}
}

func memory(t *testing.T, m api.Machine) {
	t.Helper()
	want, e := block.Hopcroft(m)
	want = slices.Clone(want)
	nextRoom, next := roomy(m.Next)
	outRoom, out := roomy(m.Out)
	rooms := [][]int{nextRoom, outRoom}
	before := [][]int{slices.Clone(nextRoom), slices.Clone(outRoom)}
	given := m
	given.Next, given.Out = next, out
	var answers [][]int
	for range 3 {
		got, gotE := block.Hopcroft(given)
		if !slices.Equal(got, want) || gotE != e {
			t.Fatalf("%v: %v, %d, not %v, %d", m, got, gotE, want, e)
		}
		answers = append(answers, got)
	}
	noneShared(t, answers[:2])
	if !slices.EqualFunc(rooms, before, slices.Equal[[]int]) {
		t.Fatalf("%v: what was handed in is now %v", m, rooms)
	}
	scribble(nextRoom, -99)
	scribble(outRoom, -99)
	if !slices.Equal(answers[2], want) {
		t.Fatalf("%v: later %v, not %v", m, answers[2], want)
	}
}
