package tree_test

import (
	"math"
	"slices"
	"testing"

	"tutor/api"
	"tutor/tree"
	"tutor/word"
)

func accesses(t *testing.T, x *tree.Tree, s int, want []int, wantE api.Errno) {
	t.Helper()
	if w, e := x.Access(s); e != wantE || !slices.Equal(w, want) {
		t.Fatalf("Access(%d): %s, %d, not %s, %d", s, cut(w), e, cut(want), wantE)
	}
}

func commons(t *testing.T, x *tree.Tree, s, u int, want []int, wantE api.Errno) {
	t.Helper()
	if d, e := x.Common(s, u); e != wantE || !slices.Equal(d, want) {
		t.Fatalf("Common(%d, %d): %s, %d, not %s, %d", s, u, cut(d), e, cut(want), wantE)
	}
	if d, e := x.Common(u, s); e != wantE || !slices.Equal(d, want) {
		t.Fatalf("Common(%d, %d): %s, %d, not %s, %d", u, s, cut(d), e, cut(want), wantE)
	}
}

func counts(t *testing.T, x *tree.Tree, want int) {
	t.Helper()
	if n := x.Count(); n != want {
		t.Fatalf("Count: %d, not %d", n, want)
	}
}

func deep(t *testing.T, x *tree.Tree, want int) {
	t.Helper()
	if n := x.Depth(); n != want {
		t.Fatalf("Depth: %d, not %d", n, want)
	}
}

// P14.5: numbers that are no state.
func TestNoState(t *testing.T) {
	for _, x := range []*tree.Tree{made(t, api.Dfa, 1, 2), made(t, api.Mealy, 1, 1), three(t), mealy(t), full(t)} {
		n := x.Count()
		for _, s := range []int{math.MinInt, -1024, -1, n, n + 1, 1024, math.MaxInt} {
			accesses(t, x, s, nil, api.ErrState)
			commons(t, x, s, 0, nil, api.ErrState)
			commons(t, x, s, n-1, nil, api.ErrState)
			// There being no such state comes ahead of both being one.
			commons(t, x, s, s, nil, api.ErrState)
		}
		commons(t, x, -1, n, nil, api.ErrState)
	}
}

// P14.5: one state twice.
func TestCommonOfOne(t *testing.T) {
	for _, x := range []*tree.Tree{made(t, api.Dfa, 1, 2), made(t, api.Mealy, 1, 1), three(t), mealy(t), full(t)} {
		for s := range x.Count() {
			commons(t, x, s, s, nil, api.ErrArg)
		}
	}
}

// P14.5: the lowest node below which both stand, near or far.
func TestCommon(t *testing.T) {
	x := three(t)
	commons(t, x, 0, 1, nil, api.OK)
	commons(t, x, 0, 2, nil, api.OK)
	commons(t, x, 1, 2, []int{0}, api.OK)
	splits(t, x, 1, []int{1, 1}, []int{0, 0}, []int{0}, []int{1}, 3)
	splits(t, x, 0, []int{1}, []int{0, 1}, []int{0}, []int{1}, 4)
	for _, c := range []struct {
		s, u int
		d    []int
	}{
		{0, 1, nil}, {0, 2, nil}, {0, 3, nil}, {0, 4, []int{1}}, {1, 2, []int{0}}, {1, 3, []int{1, 1}}, {1, 4, nil}, {2, 3, []int{0}}, {2, 4, nil}, {3, 4, nil},
	} {
		commons(t, x, c.s, c.u, c.d, api.OK)
	}
	m := mealy(t)
	commons(t, m, 0, 1, []int{1}, api.OK)
	commons(t, m, 0, 2, []int{1}, api.OK)
	commons(t, m, 1, 2, []int{0, 1}, api.OK)
}

// chain is a tree that is grown to one side: each split is of the last state
// (or of state 0 alone), by a word of its own.
func chain(t *testing.T, kind, n int, last bool) *tree.Tree {
	t.Helper()
	x := made(t, kind, 2, 2)
	for s := 1; s < n; s++ {
		was, now := []int{0}, []int{1}
		if kind == api.Mealy {
			was, now = repeat(0, s), slices.Concat(repeat(0, s-1), []int{1})
		}
		at := 0
		if last {
			at = s - 1
		}
		splits(t, x, at, repeat(0, s), repeat(1, s), was, now, s)
		if s < 40 || s > n-3 {
			deep(t, x, s)
			counts(t, x, s+1)
		}
	}
	return x
}

// P14.5: trees as deep as they may be; two states' node is the one by which
// the first of them was parted from the other one.
func TestDeepTrees(t *testing.T) {
	for _, kind := range []int{api.Dfa, api.Mealy} {
		right, left := chain(t, kind, 1024, true), chain(t, kind, 1024, false)
		for s := 0; s < 1024; s += 31 {
			for u := s + 1; u < 1024; u += 1 + u%7 {
				commons(t, right, s, u, repeat(0, s+1), api.OK)
				low := s
				if s == 0 {
					low = u
				}
				commons(t, left, s, u, repeat(0, low), api.OK)
			}
			accesses(t, right, s, repeat(1, s), api.OK)
			accesses(t, left, s, repeat(1, s), api.OK)
		}
		// State 0 is the deepest one of left, 1 the highest one.
		commons(t, left, 0, 1023, repeat(0, 1023), api.OK)
		commons(t, left, 1, 1023, repeat(0, 1), api.OK)
	}
}

// P14.5: a tree that is grown to all sides: at each step each leaf is split.
func TestDepthToAllSides(t *testing.T) {
	x := made(t, api.Dfa, 2, 2)
	for n := range 10 {
		deep(t, x, n)
		for s := range 1 << n {
			w, _ := word.At(2, 1<<n+s)
			splits(t, x, s, repeat(1, n), w, []int{s % 2}, []int{1 - s%2}, 1<<n+s)
			deep(t, x, n+1)
		}
	}
	counts(t, x, 1024)
	for _, c := range []struct{ s, u, n int }{{0, 1, 0}, {0, 2, 1}, {1, 3, 1}, {0, 512, 9}, {5, 7, 1}, {6, 7, 0}, {3, 3 + 64, 6}, {1023, 511, 9}, {1023, 767, 8}} {
		commons(t, x, c.s, c.u, repeat(1, c.n), api.OK)
	}
}

// P14.5: a split of a leaf that is not the deepest one makes the tree no
// deeper, nor does a state that is made by a Tell.
func TestDepthStays(t *testing.T) {
	x := chain(t, api.Mealy, 10, true)
	deep(t, x, 9)
	for s := range 8 {
		splits(t, x, s, []int{1}, []int{0, s % 2, s / 2 % 2, s / 4}, []int{0}, []int{1}, 10+s)
		deep(t, x, 9)
	}
	sifts(t, x, nil)
	tells(t, x, api.OK, []int{1})
	asks(t, x, []int{0, 0}, true)
	tells(t, x, api.OK, []int{1, 1})
	comes(t, x, 18, true)
	deep(t, x, 9)
	splits(t, x, 8, []int{1}, []int{0}, []int{0}, []int{1}, 19)
	deep(t, x, 10)
	splits(t, x, 9, []int{1}, []int{0, 1, 0}, []int{0}, []int{1}, 20)
	deep(t, x, 10)
	splits(t, x, 20, []int{1}, []int{0, 1, 0, 1, 0}, []int{0}, []int{1}, 21)
	deep(t, x, 11)
}
