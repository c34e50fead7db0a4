package table_test

import (
	"slices"
	"testing"

	"tutor/api"
	"tutor/table"
)

func equalMachines(a, b api.Machine) bool {
	return a.Kind == b.Kind && a.K == b.K && a.O == b.O && a.N == b.N && slices.Equal(a.Next, b.Next) && slices.Equal(a.Out, b.Out)
}

func hypo(t *testing.T, x *table.Table, want api.Machine, wantE api.Errno) {
	t.Helper()
	for range 2 {
		if m, e := x.Hypo(); e != wantE || !equalMachines(m, want) {
			t.Fatalf("Hypo: %v, %d, not %v, %d", m, e, want, wantE)
		}
	}
}

// The chapter's example.
func TestExample(t *testing.T) {
	x := made(t, api.Dfa, 1, 2)
	misses(t, x, nil, true)
	puts(t, x, api.OK, nil, []int{0})
	misses(t, x, []int{0}, true)
	puts(t, x, api.OK, []int{0}, []int{1})
	misses(t, x, nil, false)
	opens(t, x, []int{0}, true)
	hypo(t, x, api.Machine{}, api.ErrTime)
	addsRow(t, x, api.OK, []int{0})
	misses(t, x, []int{0, 0}, true)
	puts(t, x, api.OK, []int{0, 0}, []int{0})
	misses(t, x, nil, false)
	opens(t, x, nil, false)
	tears(t, x, nil, false)
	hypo(t, x, api.Machine{Kind: api.Dfa, K: 1, O: 2, N: 2, Next: []int{1, 0}, Out: []int{0, 1}}, api.OK)
}

// P13.6: an edge that is open, rows that are torn, or both.
func TestHypoNotDue(t *testing.T) {
	for _, c := range []struct {
		rows       [][]int
		ones       [][]int
		open, torn bool
	}{
		{nil, [][]int{{0}}, true, false},
		{[][]int{{0}}, [][]int{{0, 0}}, true, true},
		{[][]int{{0}, {0, 0}}, [][]int{{0, 0}}, false, true},
		{[][]int{{0}, {0, 0}}, [][]int{{0, 0}, {0, 0, 0}}, false, true},
		{[][]int{{0}, {0, 0}}, [][]int{{0}, {0, 0, 0}}, false, false},
	} {
		x := filled(t, api.Dfa, 1, 2, shape{rows: c.rows}, ones(c.ones...))
		if _, open := x.Open(); open != c.open {
			t.Fatalf("%v, %v: open: %v", c.rows, c.ones, open)
		}
		if _, torn := x.Torn(); torn != c.torn {
			t.Fatalf("%v, %v: torn: %v", c.rows, c.ones, torn)
		}
		if _, e := x.Hypo(); (e == api.ErrTime) != (c.open || c.torn) {
			t.Fatalf("%v, %v: Hypo: %d", c.rows, c.ones, e)
		}
	}
}

// P13.6: rows that are alike are one state; states are numbered as Canon
// numbers, and not as the rows came.
func TestHypo(t *testing.T) {
	for _, c := range []struct {
		kind, k, o int
		sh         shape
		say        func(w []int) []int
		n          int
		next, out  []int
	}{
		{api.Dfa, 2, 2, shape{}, ones(), 1, []int{0, 0}, []int{0}},
		{api.Dfa, 2, 2, shape{}, ones(nil, []int{0}, []int{1}), 1, []int{0, 0}, []int{1}},
		{api.Dfa, 1, 2, shape{rows: [][]int{{0}, {0, 0}, {0, 0, 0}}}, ones([]int{0}, []int{0, 0, 0}), 2, []int{1, 0}, []int{0, 1}},
		// The row [1] came ahead of [0], but [0] is ahead in the order.
		{api.Dfa, 2, 2, shape{rows: [][]int{{1}, {0}}, cols: [][]int{{0}}}, ones([]int{1}, []int{0, 0}, []int{0, 1}, []int{0, 1, 0}, []int{0, 0, 0}, []int{1, 0}, []int{1, 0, 0}), 3, []int{1, 2, 2, 2, 2, 0}, []int{0, 0, 1}},
		{api.Mealy, 2, 3, shape{}, otherwise(pair{[]int{0}, []int{2}}, pair{[]int{1}, []int{1}}, pair{[]int{0, 0}, []int{0, 2}}, pair{[]int{0, 1}, []int{0, 1}}, pair{[]int{1, 0}, []int{0, 2}}, pair{[]int{1, 1}, []int{2, 1}}), 1, []int{0, 0}, []int{2, 1}},
		{api.Mealy, 1, 2, shape{rows: [][]int{{0}}}, otherwise(pair{[]int{0, 0}, []int{0, 1}}), 2, []int{1, 0}, []int{0, 1}},
		{api.Mealy, 1, 1, shape{rows: [][]int{{0}}, cols: [][]int{{0, 0}}}, otherwise(), 1, []int{0}, []int{0}},
	} {
		x := filled(t, c.kind, c.k, c.o, c.sh, c.say)
		hypo(t, x, api.Machine{Kind: c.kind, K: c.k, O: c.o, N: c.n, Next: c.next, Out: c.out}, api.OK)
	}
}

// P13.6: the machine by which the table is filled is told, numbered by Canon:
// rows came in another order, and some of them are alike.
func TestHypoIsCanon(t *testing.T) {
	m := api.Machine{Kind: api.Dfa, K: 2, O: 2, N: 3, Next: []int{2, 1, 1, 0, 1, 2}, Out: []int{0, 1, 0}}
	want := api.Machine{Kind: api.Dfa, K: 2, O: 2, N: 3, Next: []int{1, 2, 2, 1, 2, 0}, Out: []int{0, 0, 1}}
	for _, l := range [][][]int{{{1}, {0}}, {{0}, {1}}, {{1}, {1, 0}, {1, 0, 1}, {1, 0, 1, 0}}, {{1}, {0}, {0, 0}, {0, 1}, {1, 1}, {0, 0, 0}}} {
		for _, c := range [][][]int{{{1}, {0}, {1, 1}, {0, 1}}, {{0, 1}, {1}}} {
			x := filled(t, api.Dfa, 2, 2, shape{l, c}, saying(t, m))
			hypo(t, x, want, api.OK)
		}
	}
	m = api.Machine{Kind: api.Mealy, K: 2, O: 4, N: 3, Next: []int{2, 1, 1, 0, 1, 2}, Out: []int{0, 1, 2, 3, 0, 3}}
	want = api.Machine{Kind: api.Mealy, K: 2, O: 4, N: 3, Next: []int{1, 2, 2, 1, 2, 0}, Out: []int{0, 1, 0, 3, 2, 3}}
	for _, l := range [][][]int{{{1}, {0}}, {{0}, {1}}, {{1}, {0}, {0, 0}, {0, 1}, {1, 1}, {0, 0, 0}}} {
		for _, c := range [][][]int{nil, {{1, 1, 0}}, {{0, 1}, {1, 0}}} {
			x := filled(t, api.Mealy, 2, 4, shape{l, c}, saying(t, m))
			hypo(t, x, want, api.OK)
		}
	}
}
