package table_test

import (
	"math/rand/v2"
	"slices"
	"testing"

	"tutor/api"
	"tutor/table"
)

// room lays a list out anew with marked spare room: both the whole of it and
// the list that is handed in are answered.
func room(l []int) (whole, list []int) {
	whole = append(slices.Clone(l), 77, 78, 79)
	return whole, whole[:len(l)]
}

// scribble writes all over a list, its spare room too.
func scribble(l []int, by int) {
	for i := range l[:cap(l)] {
		l[:cap(l)][i] = by
	}
}

// apart writes all over lists, each by a number of its own, and tells whether
// none wrote over another.
func apart(l [][]int) bool {
	for i, x := range l {
		scribble(x, 1000+i)
	}
	for i, x := range l {
		if slices.ContainsFunc(x[:cap(x)], func(n int) bool { return n != 1000+i }) {
			return false
		}
	}
	return true
}

// handed does something with two lists that have spare room, and holds that
// they stay; then they are written over, so that who keeps them is found out.
func handed(t *testing.T, w, out []int, do func(w, out []int)) {
	t.Helper()
	wholeW, givenW := room(w)
	wholeOut, givenOut := room(out)
	beforeW, beforeOut := slices.Clone(wholeW), slices.Clone(wholeOut)
	do(givenW, givenOut)
	if !slices.Equal(wholeW, beforeW) || !slices.Equal(wholeOut, beforeOut) {
		t.Fatalf("%v, %v: now %v, %v", w, out, wholeW, wholeOut)
	}
	scribble(wholeW, 1)
	scribble(wholeOut, 1)
}

// told lists all lists that a table tells, each twice.
func told(x *table.Table) [][]int {
	var all [][]int
	for range 2 {
		s := see(x)
		all = slices.Concat(all, s.rows, s.cols, [][]int{s.missing, s.open, s.torn, s.hypo.Next, s.hypo.Out})
	}
	return all
}

// What is handed in is neither changed nor kept; no answer shares memory with
// the object, nor with another answer.
func TestMemory(t *testing.T) {
	draw := rand.New(rand.NewPCG(13, 9))
	for range 40 {
		kind, k, o := drawnKind(draw)
		b := newBoth(t, kind, k, o)
		seen := map[string]int{}
		for range 50 {
			w, ok := b.x.Missing()
			switch {
			case ok:
				n := len(w)
				if kind == api.Dfa {
					n = 1
				}
				handed(t, w, drawnList(draw, n, o), func(w, out []int) { b.put(w, out) })
			case draw.IntN(2) == 0:
				l := b.p.lines()
				handed(t, l[draw.IntN(len(l))], nil, func(w, _ []int) { b.addRow(w) })
			default:
				handed(t, drawnList(draw, draw.IntN(4), k), nil, func(w, _ []int) { b.addCol(w) })
			}
			handed(t, drawnList(draw, draw.IntN(5), k+1), drawnList(draw, draw.IntN(3), o), func(w, out []int) { b.put(w, out) })
			if !apart(told(b.x)) {
				t.Fatalf("kind %d: two answers share memory", kind)
			}
			seen[b.agree()]++
		}
		if seen["missing"] == 50 {
			t.Fatal("never was nothing missing")
		}
	}
}

// The lists of rows and of columns themselves are new, their spare room too.
func TestListsOfWordsAreNew(t *testing.T) {
	for _, x := range bothKinds(t, 2, 2) {
		addsRow(t, x, api.OK, []int{1}, []int{0})
		addsCol(t, x, api.OK, []int{1, 1})
		for _, call := range []func() [][]int{x.Rows, x.Cols} {
			want := see(x)
			first, second := call(), call()
			for i := range first[:cap(first)] {
				first[:cap(first)][i] = []int{9}
			}
			if !see(x).same(want) || !equalLists(second, call()) {
				t.Errorf("%v, then %v", second, call())
			}
		}
	}
}

// What was told is not changed by what is done later.
func TestAnswersStay(t *testing.T) {
	x := filled(t, api.Dfa, 2, 2, shape{rows: [][]int{{1}}}, ones([]int{1, 0}))
	before := see(x)
	addsRow(t, x, api.OK, []int{1, 0}, []int{0})
	addsCol(t, x, api.OK, []int{1}, []int{0})
	asked(t, x, ones([]int{1, 0}))
	see(x)
	again := see(filled(t, api.Dfa, 2, 2, shape{rows: [][]int{{1}}}, ones([]int{1, 0})))
	if !before.same(again) || !before.opens || !before.tear {
		t.Errorf("told before: %v, not %v", before, again)
	}
}

// One list may be handed in as both, and what an object tells may be handed in
// to it.
func TestToldHandedIn(t *testing.T) {
	x := made(t, api.Mealy, 2, 2)
	w := []int{1, 0, 1}
	puts(t, x, api.OK, w, w)
	puts(t, x, api.ErrClash, w, []int{0, 0, 1})
	addsRow(t, x, api.OK, x.Cols()...)
	addsCol(t, x, api.OK, x.Rows()[1:]...)
	rows(t, x, nil, []int{0}, []int{1})
	cols(t, x, []int{0}, []int{1})
	if !slices.Equal(w, []int{1, 0, 1}) {
		t.Errorf("the list is %v now", w)
	}
}

// What stands in the spare room is no part of a list.
func TestSpareRoom(t *testing.T) {
	w, out := []int{1, 0, 7}, []int{0, 1, 9}
	x := made(t, api.Mealy, 2, 2)
	puts(t, x, api.OK, w[:2], out[:2])
	addsRow(t, x, api.OK, w[:1], w[:2])
	addsCol(t, x, api.OK, w[:2])
	rows(t, x, nil, []int{1}, []int{1, 0})
	cols(t, x, []int{0}, []int{1}, []int{1, 0})
	addsRow(t, x, api.ErrArg, w[:0])
	addsRow(t, x, api.ErrSymbol, w)
}
