package tree_test

import (
	"math/rand/v2"
	"slices"
	"testing"

	"tutor/api"
	"tutor/tree"
)

// room lays a list out anew with marked spare room: both the whole of it and
// the list that is handed in are answered.
func room(l []int) (whole, list []int) {
	whole = append(slices.Clone(l), 77, 78, 79)
	return whole, whole[:len(l)]
}

// scribble writes all over a list, its spare room too.
func scribble(l []int, by int) {
	for i := range l[:cap(l)] {
		l[:cap(l)][i] = by
	}
}

// apart writes all over lists, each by a number of its own, and tells whether
// none wrote over another.
func apart(l [][]int) bool {
	for i, x := range l {
		scribble(x, 1000+i)
	}
	for i, x := range l {
		if slices.ContainsFunc(x[:cap(x)], func(n int) bool { return n != 1000+i }) {
			return false
		}
	}
	return true
}

// handed does something with lists that have spare room, and holds that they
// stay; then they are written over, so that who keeps them is found out.
func handed(t *testing.T, do func(l ...[]int), l ...[]int) {
	t.Helper()
	var wholes, given, before [][]int
	for _, x := range l {
		whole, list := room(x)
		wholes, given, before = append(wholes, whole), append(given, list), append(before, slices.Clone(whole))
	}
	do(given...)
	if !equalLists(wholes, before) {
		t.Fatalf("%v: now %v", l, wholes)
	}
	for _, x := range wholes {
		scribble(x, 1)
	}
}

// told lists all lists that a tree tells, each twice.
func told(x *tree.Tree) [][]int {
	var all [][]int
	for range 2 {
		s := see(x)
		all = slices.Concat(all, s.access, s.common, [][]int{s.ask})
	}
	return all
}

// What is handed in is neither changed nor kept; no answer shares memory with
// the object, nor with another answer.
func TestMemory(t *testing.T) {
	draw := rand.New(rand.NewPCG(14, 9))
	seen := map[string]int{}
	for range 60 {
		kind, k, o := drawnKind(draw)
		b := newBoth(t, kind, k, o)
		for range 40 {
			q, more := b.x.Ask()
			switch {
			case more && draw.IntN(5) > 0:
				handed(t, func(l ...[]int) { b.tell(l[0]) }, drawnAnswer(draw, kind, o, len(q)))
			case draw.IntN(3) > 0:
				handed(t, func(l ...[]int) { b.sift(l[0]) }, drawnList(draw, draw.IntN(5), k))
			default:
				d := drawnList(draw, draw.IntN(4), k)
				s := draw.IntN(b.x.Count())
				handed(t, func(l ...[]int) { b.split(s, l[0], l[1], l[2], l[3]) },
					d, drawnList(draw, draw.IntN(6), k), drawnAnswer(draw, kind, o, len(d)), drawnAnswer(draw, kind, o, len(d)))
			}
			if !apart(told(b.x)) {
				t.Fatalf("kind %d: two answers share memory", kind)
			}
			seen[b.agree()]++
		}
	}
	enough(t, seen, 100, "none", "on its way", "come")
}

// What was told is not changed by what is done later.
func TestAnswersStay(t *testing.T) {
	x := mealy(t)
	sifts(t, x, []int{0, 1})
	before := see(x)
	tells(t, x, api.OK, []int{0, 1, 1})
	tells(t, x, api.OK, []int{0, 1, 1, 1})
	splits(t, x, 0, []int{1, 1}, []int{1, 0}, []int{0, 0}, []int{0, 1}, 4)
	sifts(t, x, []int{1, 1, 1})
	see(x)
	again := mealy(t)
	sifts(t, again, []int{0, 1})
	if !before.same(see(again)) || !before.more {
		t.Errorf("told before: %v, not %v", before, see(again))
	}
}

// One list may be handed in as several, and what an object tells may be handed
// in to it.
func TestToldHandedIn(t *testing.T) {
	x := made(t, api.Mealy, 2, 2)
	w := []int{1, 0}
	splits(t, x, 0, w, w, w, []int{0, 0}, 1)
	d, _ := x.Common(0, 1)
	sifts(t, x, d)
	q, _ := x.Ask()
	tells(t, x, api.OK, q)
	comes(t, x, 0, true)
	splits(t, x, 0, q, q, q, []int{0, 0, 0, 0}, 2)
	access, _ := x.Access(2)
	refusesSplit(t, x, api.ErrTwice, 1, access, access, access, []int{0, 0, 0, 0})
	refusesSplit(t, x, api.ErrClash, 1, access, access, access, access)
	if !slices.Equal(w, []int{1, 0}) || !slices.Equal(q, []int{1, 0, 1, 0}) {
		t.Errorf("the lists are %v, %v now", w, q)
	}
}

// What stands in the spare room is no part of a list.
func TestSpareRoom(t *testing.T) {
	x := made(t, api.Mealy, 2, 2)
	l := []int{1, 0, 1, 7}
	splits(t, x, 0, l[:2], l[:3], l[:2], l[1:3], 1)
	accesses(t, x, 1, []int{1, 0, 1}, api.OK)
	commons(t, x, 0, 1, []int{1, 0}, api.OK)
	sifts(t, x, l[:1])
	asks(t, x, []int{1, 1, 0}, true)
	refusesTell(t, x, api.ErrAnswer, l[:2])
	tells(t, x, api.OK, l[:3])
	comes(t, x, 1, true)
	refusesSplit(t, x, api.ErrTwice, 0, l[:1], l[:0], l[:1], l[1:2])
	refusesSift(t, x, api.ErrSymbol, l)
}
