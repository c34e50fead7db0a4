package point_test

import (
	"math"
	"slices"
	"testing"

	"tutor/api"
	"tutor/point"
)

// equalLists holds nil and empty lists for the same.
func equalLists(a, b [][]int) bool {
	return slices.EqualFunc(a, b, slices.Equal[[]int])
}

// counted is a list of n numbers, all of them others.
func counted(n int) []int {
	l := make([]int, n)
	for i := range l {
		l[i] = 3*i - 100
	}
	return l
}

// P12.4, told by hand; of any lists, those too that are no words.
func TestBeginningsAndEnds(t *testing.T) {
	for _, c := range []struct {
		w                []int
		beginnings, ends [][]int
	}{
		{nil, nil, nil},
		{[]int{}, nil, nil},
		{[]int{0}, [][]int{{0}}, [][]int{{0}}},
		{[]int{7}, [][]int{{7}}, [][]int{{7}}},
		{[]int{1, 2}, [][]int{{1}, {1, 2}}, [][]int{{2}, {1, 2}}},
		{[]int{0, 0, 0}, [][]int{{0}, {0, 0}, {0, 0, 0}}, [][]int{{0}, {0, 0}, {0, 0, 0}}},
		{[]int{3, 1, 2}, [][]int{{3}, {3, 1}, {3, 1, 2}}, [][]int{{2}, {1, 2}, {3, 1, 2}}},
		{[]int{2, 0, 1, 1}, [][]int{{2}, {2, 0}, {2, 0, 1}, {2, 0, 1, 1}}, [][]int{{1}, {1, 1}, {0, 1, 1}, {2, 0, 1, 1}}},
		{[]int{-1, 64}, [][]int{{-1}, {-1, 64}}, [][]int{{64}, {-1, 64}}},
		{[]int{math.MinInt, 99, math.MaxInt}, [][]int{{math.MinInt}, {math.MinInt, 99}, {math.MinInt, 99, math.MaxInt}}, [][]int{{math.MaxInt}, {99, math.MaxInt}, {math.MinInt, 99, math.MaxInt}}},
	} {
		if got := point.Beginnings(c.w); !equalLists(got, c.beginnings) {
			t.Errorf("Beginnings(%v): %v, not %v", c.w, got, c.beginnings)
		}
		if got := point.Ends(c.w); !equalLists(got, c.ends) {
			t.Errorf("Ends(%v): %v, not %v", c.w, got, c.ends)
		}
	}
}

// P12.4: as many as there are numbers, one number more each; the longest words
// and a list that is longer.
func TestLongLists(t *testing.T) {
	for _, n := range []int{0, 1, 2, 3, 64, 65, 300, api.MaxWord, api.MaxWord + 1} {
		w := counted(n)
		beginnings, ends := point.Beginnings(w), point.Ends(w)
		if len(beginnings) != n || len(ends) != n {
			t.Fatalf("of %d numbers: %d beginnings, %d ends", n, len(beginnings), len(ends))
		}
		for i := range n {
			if !slices.Equal(beginnings[i], w[:i+1]) || !slices.Equal(ends[i], w[n-1-i:]) {
				t.Fatalf("of %d numbers, at %d: %.20v, %.20v", n, i, beginnings[i], ends[i])
			}
		}
	}
}

// What stands in the spare room is no part of a list.
func TestSpareRoom(t *testing.T) {
	w := []int{5, 1, 0, 7}
	if got := point.Beginnings(w[1:3]); !equalLists(got, [][]int{{1}, {1, 0}}) {
		t.Errorf("Beginnings: %v", got)
	}
	if got := point.Ends(w[1:3]); !equalLists(got, [][]int{{0}, {1, 0}}) {
		t.Errorf("Ends: %v", got)
	}
	if a, b := point.Beginnings(w[:0]), point.Ends(w[:0]); len(a) != 0 || len(b) != 0 {
		t.Errorf("of nothing: %v, %v", a, b)
	}
}

// room lays a list out anew with marked spare room: both the whole of it and
// the list that is handed in are answered.
func room(l []int) (whole, list []int) {
	whole = append(slices.Clone(l), 77, 78, 79)
	return whole, whole[:len(l)]
}

// scribble writes all over a list, its spare room too.
func scribble(l []int, by int) {
	for i := range l[:cap(l)] {
		l[:cap(l)][i] = by
	}
}

// What is handed in is neither changed nor kept; no list that is answered
// shares memory with it, or with another one.
func TestMemory(t *testing.T) {
	for _, call := range []func(w []int) [][]int{point.Beginnings, point.Ends} {
		for _, w := range [][]int{nil, {4}, {0, 0}, {3, 1, 2}, {-1, 64, 9, 9, 9}, counted(40)} {
			whole, given := room(w)
			before := slices.Clone(whole)
			want := copied(call(w))
			first, second, third := call(given), call(given), call(given)
			lists := append(slices.Concat(first, second), whole)
			if !slices.Equal(whole, before) {
				t.Fatalf("%v: what was handed in is now %v", w, whole)
			}
			for i, l := range lists {
				scribble(l, 1000+i)
			}
			for i, l := range lists {
				if slices.ContainsFunc(l[:cap(l)], func(x int) bool { return x != 1000+i }) {
					t.Fatalf("%v: two lists share memory", w)
				}
			}
			if !equalLists(third, want) || !equalLists(call(w), want) {
				t.Fatalf("%v: later %v, then %v, not %v", w, third, call(w), want)
			}
		}
	}
}

func copied(l [][]int) [][]int {
	var c [][]int
	for _, w := range l {
		c = append(c, slices.Clone(w))
	}
	return c
}

// The list of lists itself is new, its spare room too.
func TestListOfListsIsNew(t *testing.T) {
	for _, call := range []func(w []int) [][]int{point.Beginnings, point.Ends} {
		w := []int{3, 1, 2}
		want := copied(call(w))
		first, second := call(w), call(w)
		for i := range first[:cap(first)] {
			first[:cap(first)][i] = []int{9}
		}
		if !equalLists(second, want) || !equalLists(call(w), want) {
			t.Errorf("%v, then %v, not %v", second, call(w), want)
		}
	}
}
