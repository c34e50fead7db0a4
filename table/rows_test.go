package table_test

import (
	"math"
	"slices"
	"testing"

	"tutor/api"
	"tutor/table"
)

func addsRow(t *testing.T, x *table.Table, want api.Errno, l ...[]int) {
	t.Helper()
	for _, w := range l {
		if got := x.AddRow(w); got != want {
			t.Fatalf("AddRow(%s): %d, not %d", cut(w), got, want)
		}
	}
}

func addsCol(t *testing.T, x *table.Table, want api.Errno, l ...[]int) {
	t.Helper()
	for _, w := range l {
		if got := x.AddCol(w); got != want {
			t.Fatalf("AddCol(%s): %d, not %d", cut(w), got, want)
		}
	}
}

func rows(t *testing.T, x *table.Table, want ...[]int) {
	t.Helper()
	if got := x.Rows(); !equalLists(got, want) {
		t.Fatalf("rows are %s, not %s", cut(got), cut(want))
	}
}

func cols(t *testing.T, x *table.Table, want ...[]int) {
	t.Helper()
	if got := x.Cols(); !equalLists(got, want) {
		t.Fatalf("columns are %s, not %s", cut(got), cut(want))
	}
}

// seen is all that a table tells; that of an object that is asked twice must
// be the same twice.
type seen struct {
	rows, cols          [][]int
	missing, open, torn []int
	misses, opens, tear bool
	hypo                api.Machine
	e                   api.Errno
}

func see(x *table.Table) seen {
	s := seen{rows: x.Rows(), cols: x.Cols()}
	s.missing, s.misses = x.Missing()
	s.open, s.opens = x.Open()
	s.torn, s.tear = x.Torn()
	s.hypo, s.e = x.Hypo()
	return s
}

func (s seen) same(o seen) bool {
	return equalLists(s.rows, o.rows) && equalLists(s.cols, o.cols) &&
		slices.Equal(s.missing, o.missing) && s.misses == o.misses && slices.Equal(s.open, o.open) && s.opens == o.opens &&
		slices.Equal(s.torn, o.torn) && s.tear == o.tear && equalMachines(s.hypo, o.hypo) && s.e == o.e
}

// refuses holds that what is done tells an error and changes nothing.
func refuses(t *testing.T, x *table.Table, want api.Errno, do func() api.Errno) {
	t.Helper()
	before := see(x)
	if got := do(); got != want {
		t.Fatalf("%d, not %d", got, want)
	}
	if after := see(x); !after.same(before) {
		t.Fatalf("behind error %d: %v, not %v", want, after, before)
	}
}

func refusesRow(t *testing.T, x *table.Table, want api.Errno, l ...[]int) {
	t.Helper()
	for _, w := range l {
		refuses(t, x, want, func() api.Errno { return x.AddRow(w) })
	}
}

func refusesCol(t *testing.T, x *table.Table, want api.Errno, l ...[]int) {
	t.Helper()
	for _, w := range l {
		refuses(t, x, want, func() api.Errno { return x.AddCol(w) })
	}
}

func repeat(x, n int) []int {
	return slices.Repeat([]int{x}, n)
}

// bothKinds are tables of both Kinds.
func bothKinds(t *testing.T, k, o int) []*table.Table {
	t.Helper()
	return []*table.Table{made(t, api.Dfa, k, 2), made(t, api.Mealy, k, o)}
}

// P13.2: rows come behind the others, each once, in the order in which they
// came.
func TestAddRow(t *testing.T) {
	for _, x := range bothKinds(t, 3, 2) {
		want := [][]int{{}}
		for _, w := range [][]int{{2}, {0}, {2, 1}, {2, 1, 2}, {0, 0}, {1}, {2, 0}, {2, 1, 0}, {1, 2}} {
			addsRow(t, x, api.OK, w)
			want = append(want, w)
			rows(t, x, want...)
			// One that is there already changes nothing.
			addsRow(t, x, api.OK, want[1:]...)
			rows(t, x, want...)
		}
	}
}

// P13.2: without its last symbol it must be a row; an edge is none yet.
func TestAddRowWithoutBeginning(t *testing.T) {
	for _, x := range bothKinds(t, 2, 2) {
		refusesRow(t, x, api.ErrArg, nil, []int{})
		refusesRow(t, x, api.ErrArg, []int{0, 0}, []int{0, 1}, []int{1, 0, 1}, repeat(1, 1024), repeat(0, api.MaxWord))
		addsRow(t, x, api.OK, []int{0})
		refusesRow(t, x, api.ErrArg, nil, []int{1, 0}, []int{0, 0, 0}, []int{0, 1, 0}, []int{1, 1})
		addsRow(t, x, api.OK, []int{0, 1})
		refusesRow(t, x, api.ErrArg, []int{0, 0, 0}, []int{0, 0, 1}, []int{1, 1}, []int{1, 1, 0}, []int{1, 0, 1})
		addsRow(t, x, api.OK, []int{0, 1, 0}, []int{0, 1, 1}, []int{0, 0}, []int{1})
		refusesRow(t, x, api.ErrArg, nil)
		rows(t, x, nil, []int{0}, []int{0, 1}, []int{0, 1, 0}, []int{0, 1, 1}, []int{0, 0}, []int{1})
	}
}

// P13.2: columns come behind those of New, each once; any words, but of a
// Mealy not the empty one.
func TestAddCol(t *testing.T) {
	d, m := made(t, api.Dfa, 3, 2), made(t, api.Mealy, 3, 2)
	refusesCol(t, m, api.ErrArg, nil, []int{})
	wantD, wantM := [][]int{{}}, [][]int{{0}, {1}, {2}}
	for _, w := range [][]int{{2, 1}, {0, 0, 0}, {1, 2}, {0, 0}, repeat(1, api.MaxWord), {2, 2}, repeat(0, api.MaxWord), repeat(1, api.MaxWord-1)} {
		addsCol(t, d, api.OK, w)
		addsCol(t, m, api.OK, w)
		wantD, wantM = append(wantD, w), append(wantM, w)
		cols(t, d, wantD...)
		cols(t, m, wantM...)
		addsCol(t, d, api.OK, wantD...)
		addsCol(t, m, api.OK, wantM...)
		cols(t, d, wantD...)
		cols(t, m, wantM...)
		refusesCol(t, m, api.ErrArg, nil, []int{})
	}
	addsCol(t, d, api.OK, []int{1}, nil, []int{0}, []int{2})
	cols(t, d, append(wantD, []int{1}, []int{0}, []int{2})...)
	rows(t, d, nil)
	rows(t, m, nil)
}

// P13.2: a list that is no word: word.Check's error, ahead of all others.
func TestNoWords(t *testing.T) {
	for _, k := range []int{1, 2, 63, 64} {
		for _, x := range bothKinds(t, k, 2) {
			addsRow(t, x, api.OK, []int{0})
			for _, s := range []int{-1, k, k + 1, 64, 256, math.MinInt, math.MaxInt} {
				l := [][]int{{s}, {0, s}, {s, 0}, {0, 0, 0, s}, {s, 0, 0, 0}, append(repeat(0, api.MaxWord-1), s)}
				refusesRow(t, x, api.ErrSymbol, l...)
				refusesCol(t, x, api.ErrSymbol, l...)
				refusesRow(t, x, api.ErrLong, append(repeat(0, api.MaxWord), s))
				refusesCol(t, x, api.ErrLong, append(repeat(0, api.MaxWord), s))
			}
			refusesRow(t, x, api.ErrLong, repeat(0, api.MaxWord+1), repeat(k, 5000))
			refusesCol(t, x, api.ErrLong, repeat(0, api.MaxWord+1), repeat(k, 5000))
			addsRow(t, x, api.ErrArg, repeat(0, api.MaxWord))
			addsCol(t, x, api.OK, repeat(0, api.MaxWord))
		}
	}
}

// P13.2: the MaxStates-th row, and the next; a row that is there needs no room,
// and which error comes first.
func TestMostRows(t *testing.T) {
	for _, k := range []int{1, 2, 64} {
		for _, x := range bothKinds(t, k, 2) {
			want := [][]int{{}}
			for n := 1; n < api.MaxStates; n++ {
				addsRow(t, x, api.OK, repeat(k-1, n))
				want = append(want, repeat(k-1, n))
			}
			rows(t, x, want...)
			refusesRow(t, x, api.ErrMany, repeat(k-1, api.MaxStates))
			if k > 1 {
				refusesRow(t, x, api.ErrMany, []int{0}, []int{k - 1, 0}, append(repeat(k-1, 500), 0), append(repeat(k-1, api.MaxStates-1), 0))
				refusesRow(t, x, api.ErrArg, []int{0, 0}, []int{0, k - 1}, append(repeat(k-1, api.MaxStates-1), 0, 0))
			}
			refusesRow(t, x, api.ErrArg, nil, repeat(k-1, api.MaxStates+1), repeat(k-1, api.MaxWord))
			refusesRow(t, x, api.ErrSymbol, []int{k}, append(repeat(k-1, api.MaxStates-1), k))
			refusesRow(t, x, api.ErrLong, repeat(k-1, api.MaxWord+1))
			addsRow(t, x, api.OK, want[1:]...)
			rows(t, x, want...)
			addsCol(t, x, api.OK, repeat(0, 5))
		}
	}
}

// P13.2: the MaxStates-th column, and the next.
func TestMostCols(t *testing.T) {
	for _, k := range []int{1, 2, 64} {
		for _, x := range bothKinds(t, k, 2) {
			want := x.Cols()
			for n := 2; len(want) < api.MaxStates; n++ {
				addsCol(t, x, api.OK, repeat(k-1, n))
				want = append(want, repeat(k-1, n))
			}
			cols(t, x, want...)
			refusesCol(t, x, api.ErrMany, repeat(k-1, api.MaxStates+2), append(repeat(k-1, 2000), 0), repeat(k-1, api.MaxWord))
			refusesCol(t, x, api.ErrSymbol, []int{k}, append(repeat(k-1, 2000), -1))
			refusesCol(t, x, api.ErrLong, repeat(k-1, api.MaxWord+1))
			if len(want[0]) > 0 {
				refusesCol(t, x, api.ErrArg, nil)
			}
			addsCol(t, x, api.OK, want...)
			cols(t, x, want...)
			addsRow(t, x, api.OK, []int{0})
		}
	}
}
