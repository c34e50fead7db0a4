package cache_test

import (
	"slices"
	"testing"

	"tutor/api"
	"tutor/cache"
)

// room lays a list out anew with marked spare room: both the whole of it and
// the list that is handed in are answered.
func room(l []int) (whole, list []int) {
	whole = append(slices.Clone(l), 77, 78, 79)
	return whole, whole[:len(l)]
}

// scribble writes all over a list, its spare room too.
func scribble(l []int, by int) {
	for i := range l[:cap(l)] {
		l[:cap(l)][i] = by
	}
}

// apart writes all over lists, each by a number of its own, and tells whether
// none wrote over another.
func apart(l [][]int) bool {
	for i, x := range l {
		scribble(x, 1000+i)
	}
	for i, x := range l {
		if slices.ContainsFunc(x[:cap(x)], func(n int) bool { return n != 1000+i }) {
			return false
		}
	}
	return true
}

// handed does something with two lists that have spare room, and holds that
// they stay; then they are written over, so that who keeps them is found out.
func handed(t *testing.T, w, out []int, do func(w, out []int)) {
	t.Helper()
	wholeW, givenW := room(w)
	wholeOut, givenOut := room(out)
	beforeW, beforeOut := slices.Clone(wholeW), slices.Clone(wholeOut)
	do(givenW, givenOut)
	if !slices.Equal(wholeW, beforeW) || !slices.Equal(wholeOut, beforeOut) {
		t.Fatalf("%v, %v: now %v, %v", w, out, wholeW, wholeOut)
	}
	scribble(wholeW, 1)
	scribble(wholeOut, 1)
}

// told lists all lists that a cache tells of these words and of all that it
// has, and of each of them twice.
func told(c *cache.Cache, l [][]int) [][]int {
	var all [][]int
	for range 2 {
		all = append(all, c.Words()...)
		for _, w := range l {
			out, _ := c.Get(w)
			all = append(all, out)
		}
	}
	return all
}

// What is handed in is neither changed nor kept; no answer shares memory with
// the object, nor with another answer.
func TestMemory(t *testing.T) {
	probes := lists(3, -1, 2)
	for kind, o := range map[int]int{api.Dfa: 2, api.Mealy: 3} {
		b := newBoth(t, kind, 2, o, 9)
		var answers [][]int
		for _, x := range []pair{
			{nil, nil}, {nil, []int{1}}, {[]int{0, 1}, []int{1}}, {[]int{0, 1}, []int{1, 0}}, {[]int{0}, []int{1}}, {[]int{0}, []int{0}},
			{[]int{1, 1, 0}, []int{0}}, {[]int{1, 1, 0}, []int{1, 0, 1}}, {[]int{2}, []int{0}}, {[]int{0, 0, 0, 0, 0, 0}, repeat(1, 6)}, {[]int{0, 0, 0, 0, 0, 0, 0, 0}, []int{1}},
			{repeat(0, api.MaxWord+1), []int{0}}, {[]int{1, 0}, []int{1, 2}}, {[]int{1, 0}, []int{1, 1}}, {[]int{1, 0}, []int{1}},
		} {
			handed(t, x.w, x.out, func(w, out []int) { b.put(w, out) })
			handed(t, x.w, nil, func(w, _ []int) { b.get(w) })
			b.agree(probes)
			for range 2 {
				answers = append(answers, told(b.c, probes)...)
			}
			if !apart(answers) {
				t.Fatalf("kind %d: two answers share memory", kind)
			}
			b.p.hits, b.p.misses = b.c.Hits(), b.c.Misses()
			b.agree(probes)
		}
	}
}

// The list of words itself is new, its spare room too.
func TestListOfWordsIsNew(t *testing.T) {
	for _, kind := range []int{api.Dfa, api.Mealy} {
		c := made(t, kind, 2, 2, 99)
		for _, x := range []int{0, 1} {
			puts(t, c, api.OK, []int{x}, []int{x})
		}
		first, second := c.Words(), c.Words()
		for i := range first[:cap(first)] {
			first[:cap(first)][i] = []int{9}
		}
		if want := [][]int{{0}, {1}}; !equalLists(second, want) || !equalLists(c.Words(), want) {
			t.Errorf("kind %d: %v, then %v", kind, second, c.Words())
		}
	}
}

// What was told is not changed by what is done later.
func TestAnswersStay(t *testing.T) {
	c := made(t, api.Mealy, 2, 2, 99)
	puts(t, c, api.OK, []int{0, 1}, []int{1, 0})
	out, _ := c.Get([]int{0, 1})
	l := c.Words()
	puts(t, c, api.OK, []int{0, 1, 1}, []int{1, 0, 1})
	puts(t, c, api.OK, []int{0, 0}, []int{1, 1})
	c.Get([]int{0, 0})
	c.Words()
	if !slices.Equal(out, []int{1, 0}) || !equalLists(l, [][]int{{0, 1}}) {
		t.Errorf("told before: %v, %v", out, l)
	}
}

// One list may be handed in as both, and what an object tells may be handed
// in to it.
func TestToldHandedIn(t *testing.T) {
	c := made(t, api.Mealy, 2, 2, 99)
	w := []int{1, 0, 1}
	puts(t, c, api.OK, w, w)
	out, _ := c.Get(w)
	puts(t, c, api.OK, w, out)
	puts(t, c, api.OK, out, w)
	puts(t, c, api.OK, c.Words()[0], out)
	puts(t, c, api.ErrClash, append(out, 0), append([]int{0}, w...))
	words(t, c, []int{1, 0, 1})
	if !slices.Equal(w, []int{1, 0, 1}) {
		t.Errorf("the list is %v now", w)
	}
}

// What stands in the spare room is no part of a list.
func TestSpareRoom(t *testing.T) {
	c := made(t, api.Mealy, 2, 2, 99)
	w, out := []int{1, 0, 7}, []int{0, 1, 9}
	puts(t, c, api.OK, w[:2], out[:2])
	gets(t, c, w[:1], out[:1], true)
	gets(t, c, w[:2], out[:2], true)
	gets(t, c, w, nil, false)
	words(t, c, w[:2])
	d := made(t, api.Dfa, 2, 2, 99)
	puts(t, d, api.OK, w[:2], out[:1])
	gets(t, d, w[:2], out[:1], true)
	words(t, d, w[:2])
}
